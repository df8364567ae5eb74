/-
  'pack.pointed', 'pack.Ptr' and the document's by contracts. Conditions: a pointer that reads as such.
-/
import Derived.Test.YtiflkjjjncagfaaPackBoth
namespace Go.Proofs.Ytiflkjjjncagfaa
open Go Go.RowKit
set_option linter.unusedVariables false

namespace K
structure Pt where
  a : Int
  z : Int
  b : Int
  s : ByteArray
def okP (p : Pt) : Bool := decide (0 ≤ p.a ∧ 1 ≤ p.z ∧ p.z ≤ 1024 ∧ 0 ≤ p.b ∧ p.s.size = 32)
def itsP (p : Pt) : List It := [⟨1, p.a, ⟨#[]⟩⟩, ⟨1, p.z, ⟨#[]⟩⟩, ⟨1, p.b, ⟨#[]⟩⟩, ⟨2, 0, p.s⟩]
def ptrS (p : Pt) : ByteArray := if okP p then txt (encs (itsP p)) else ⟨#[]⟩
def ptrE (p : Pt) : Int := if okP p then 0 else 2
def FitP (p : Pt) : Prop := (-9223372036854775808 ≤ p.a ∧ p.a ≤ 9223372036854775807) ∧ (-9223372036854775808 ≤ p.z ∧ p.z ≤ 9223372036854775807) ∧ (-9223372036854775808 ≤ p.b ∧ p.b ≤ 9223372036854775807) ∧ p.s.size ≤ maxLen
theorem itsP_right {p : Pt} (h : okP p = true) : fault (itsP p) = 0 := by
  unfold okP at h
  have h := of_decide_eq_true h
  refine fault_right (by simp [itsP]) fun x hx => ?_
  simp only [itsP, List.mem_cons, List.not_mem_nil, or_false] at hx
  rcases hx with rfl | rfl | rfl | rfl
  · exact ⟨by simp [formed], by simp [big]⟩
  · exact ⟨by simp [formed], by simp [big]⟩
  · exact ⟨by simp [formed], by simp [big]⟩
  · exact ⟨by simp [formed], by simp [big]; omega⟩
end K
theorem itsP_good {p : K.Pt} (h : K.FitP p) : ∀ x ∈ K.itsP p, Good x := by
  obtain ⟨h1, h2, h3, h4⟩ := h
  intro x hx
  simp only [K.itsP, List.mem_cons, List.not_mem_nil, or_false] at hx
  rcases hx with rfl | rfl | rfl | rfl
  · exact ⟨h1, by show (0 : Nat) ≤ maxLen; omega⟩
  · exact ⟨h2, by show (0 : Nat) ≤ maxLen; omega⟩
  · exact ⟨h3, by show (0 : Nat) ≤ maxLen; omega⟩
  · exact ⟨⟨by show (-9223372036854775808 : Int) ≤ 0; omega, by show (0 : Int) ≤ 9223372036854775807; omega⟩, h4⟩
def ptA (p : K.Pt) : Array Value := #[.int .i64 p.a, .int .i64 p.z, .int .i64 p.b, .string p.s]

set_option maxHeartbeats 1600000 in
theorem pointed_any (p : K.Pt) (w : World) (hp : p.s.size ≤ maxLen) :
    Calls Try.prog 27 #[.agg (ptA p)] w fun e w' => e = .returned (.bool (K.okP p)) ∧ Below w.heap.size w w' := by
  obtain ⟨a, z, b, s⟩ := p
  unfold ptA
  dsimp only at hp ⊢
  have L1 : Hid (Below w.heap.size w (w.alloc (.cells #[.int .i64 a, .int .i64 z, .int .i64 b, .string s] 37))) := Lib.hid ((Below.refl _ _).alloc (Nat.le_refl _) _)
  unfold maxLen at hp
  by_cases ha : 0 ≤ a
  · by_cases hz1 : 1 ≤ z
    · by_cases hz2 : z ≤ 1024
      · by_cases hb : 0 ≤ b
        · by_cases h5 : s.size = 32
          · have HO : K.okP ⟨a, z, b, s⟩ = true := by simp [K.okP, ha, hz1, hz2, hb, h5]
            have t5 : ((s.size : Int) == 32) = true := by simp; omega
            rw [HO]
            clear h5 HO
            go_enter Try.func27, Try.ntmps27
            go_wp2
            go_ret
            exact ⟨ret_bool rfl, L1.out⟩
          · have HO : K.okP ⟨a, z, b, s⟩ = false := by simp [K.okP, h5]
            have t5 : ((s.size : Int) == 32) = false := by simp; omega
            rw [HO]
            clear h5 HO
            go_enter Try.func27, Try.ntmps27
            go_wp2
            go_ret
            exact ⟨ret_bool rfl, L1.out⟩
        · have HO : K.okP ⟨a, z, b, s⟩ = false := by simp [K.okP, hb]
          rw [HO]
          have hb : b < 0 := by omega
          clear HO
          go_enter Try.func27, Try.ntmps27
          go_wp2
          go_ret
          exact ⟨ret_bool rfl, L1.out⟩
      · have HO : K.okP ⟨a, z, b, s⟩ = false := by simp [K.okP, hz2]
        rw [HO]
        have hz2 : 1024 < z := by omega
        clear HO
        go_enter Try.func27, Try.ntmps27
        go_wp2
        go_ret
        exact ⟨ret_bool rfl, L1.out⟩
    · have HO : K.okP ⟨a, z, b, s⟩ = false := by simp [K.okP, hz1]
      rw [HO]
      have hz1 : z < 1 := by omega
      clear HO
      go_enter Try.func27, Try.ntmps27
      go_wp2
      go_ret
      exact ⟨ret_bool rfl, L1.out⟩
  · have HO : K.okP ⟨a, z, b, s⟩ = false := by simp [K.okP, ha]
    rw [HO]
    have ha : a < 0 := by omega
    clear HO
    go_enter Try.func27, Try.ntmps27
    go_wp2
    go_ret
    exact ⟨ret_bool rfl, L1.out⟩
set_option maxHeartbeats 1600000 in
theorem rightPtr_any (p : K.Pt) (w : World) (hp : p.s.size ≤ maxLen) :
    Calls Try.prog 25 #[.agg (ptA p)] w fun e w' => e = .returned (.bool (K.okP p)) ∧ Below w.heap.size w w' := by
  obtain ⟨a, z, b, s⟩ := p
  unfold ptA
  dsimp only at hp ⊢
  have L1 : Hid (Below w.heap.size w (w.alloc (.cells #[.int .i64 a, .int .i64 z, .int .i64 b, .string s] 37))) := Lib.hid ((Below.refl _ _).alloc (Nat.le_refl _) _)
  unfold maxLen at hp
  by_cases ha : 0 ≤ a
  · by_cases hb : 0 ≤ b
    · by_cases hz1 : 1 ≤ z
      · by_cases hz2 : z ≤ 1024
        · by_cases h5 : s.size = 32
          · have HO : K.okP ⟨a, z, b, s⟩ = true := by simp [K.okP, ha, hb, hz1, hz2, h5]
            have t5 : ((s.size : Int) == 32) = true := by simp; omega
            rw [HO]
            clear h5 HO
            go_enter Try.func25, Try.ntmps25
            go_wp2
            go_ret
            exact ⟨ret_bool rfl, L1.out⟩
          · have HO : K.okP ⟨a, z, b, s⟩ = false := by simp [K.okP, h5]
            have t5 : ((s.size : Int) == 32) = false := by simp; omega
            rw [HO]
            clear h5 HO
            go_enter Try.func25, Try.ntmps25
            go_wp2
            go_ret
            exact ⟨ret_bool rfl, L1.out⟩
        · have HO : K.okP ⟨a, z, b, s⟩ = false := by simp [K.okP, hz2]
          rw [HO]
          have hz2 : 1024 < z := by omega
          clear HO
          go_enter Try.func25, Try.ntmps25
          go_wp2
          go_ret
          exact ⟨ret_bool rfl, L1.out⟩
      · have HO : K.okP ⟨a, z, b, s⟩ = false := by simp [K.okP, hz1]
        rw [HO]
        have hz1 : z < 1 := by omega
        clear HO
        go_enter Try.func25, Try.ntmps25
        go_wp2
        go_ret
        exact ⟨ret_bool rfl, L1.out⟩
    · have HO : K.okP ⟨a, z, b, s⟩ = false := by simp [K.okP, hb]
      rw [HO]
      have hb : b < 0 := by omega
      clear HO
      go_enter Try.func25, Try.ntmps25
      go_wp2
      go_ret
      exact ⟨ret_bool rfl, L1.out⟩
  · have HO : K.okP ⟨a, z, b, s⟩ = false := by simp [K.okP, ha]
    rw [HO]
    have ha : a < 0 := by omega
    clear HO
    go_enter Try.func25, Try.ntmps25
    go_wp2
    go_ret
    exact ⟨ret_bool rfl, L1.out⟩
theorem isize_ptr : (Try.prog.info? 37).map (·.size) = some 4 := by kernel_rfl
theorem itsP_cells (a z b : Int) (s : ByteArray) : (icells (K.itsP ⟨a, z, b, s⟩)).toArray = #[.int .i64 1, .int .i64 a, .string ⟨#[]⟩, .int .i64 1, .int .i64 z, .string ⟨#[]⟩, .int .i64 1, .int .i64 b, .string ⟨#[]⟩, .int .i64 2, .int .i64 0, .string s] := rfl
set_option maxHeartbeats 1600000 in
theorem items_any (p : K.Pt) (w : World) :
    Calls Try.prog 26 #[.agg (ptA p)] w fun e w' => ∃ A c, e = .returned (.slice A 4 c) ∧ RdI w' w'.heap.size A (K.itsP p) ∧ 4 ≤ c ∧ c ≤ maxLen ∧ Below w.heap.size w w' := by
  obtain ⟨a, z, b, s⟩ := p
  unfold ptA
  dsimp only
  have L1 : Hid (Below w.heap.size w ((w.alloc (.cells #[.int .i64 a, .int .i64 z, .int .i64 b, .string s] 37)).alloc (.cells (icells (K.itsP ⟨a, z, b, s⟩)).toArray 43))) := Lib.hid (((Below.refl _ _).alloc (Nat.le_refl _) _).alloc (by simp) _)
  have R1 : Hid (RdI ((w.alloc (.cells #[.int .i64 a, .int .i64 z, .int .i64 b, .string s] 37)).alloc (.cells (icells (K.itsP ⟨a, z, b, s⟩)).toArray 43)) (w.heap.size + 1 + 1) (some ⟨w.heap.size + 1, 0, none⟩) (K.itsP ⟨a, z, b, s⟩)) := Lib.hid (by
    have h := rdi_new (w.alloc (.cells #[.int .i64 a, .int .i64 z, .int .i64 b, .string s] 37)) (K.itsP ⟨a, z, b, s⟩)
    rw [show (w.alloc (.cells #[.int .i64 a, .int .i64 z, .int .i64 b, .string s] 37)).heap.size = w.heap.size + 1 by simp] at h
    exact h)
  rw [itsP_cells] at L1 R1
  go_enter Try.func26, Try.ntmps26
  go_wp2
  go_ret
  exact ⟨_, _, rfl, by simpa using R1.out, by omega, by unfold maxLen; omega, L1.out⟩
set_option maxHeartbeats 1600000 in
theorem ptr_any (p : K.Pt) (w : World) (hp : K.FitP p) :
    Calls Try.prog 15 #[.agg (ptA p)] w fun e w' => e = .returned (.tuple #[.string (K.ptrS p), .int .i64 (K.ptrE p)]) ∧ Below w.heap.size w w' := by
  have HP := fun W => pointed_any p W hp.2.2.2
  have HG := Lib.hid (itsP_good hp)
  have HPH := Lib.hid HP
  unfold K.ptrS K.ptrE
  by_cases hok : K.okP p = true
  · rw [if_pos hok, if_pos hok]
    have HR := Lib.hid (K.itsP_right hok)
    rw [hok] at HPH
    have hln : (K.itsP p).length = 4 := rfl
    have HEN := Lib.hid fun (A : Option Addr) (c B : Nat) (W : World) hx hB hlc hcm => encode_ok A (K.itsP p) c B W hx hB HG.out hlc hcm HR.out
    have R1 := fun (W : World) => rdi_new W (K.itsP p)
    obtain ⟨a, z, b, s⟩ := p
    unfold ptA at HPH ⊢
    dsimp only at HPH ⊢
    simp only [itsP_cells] at R1
    have RN := Lib.hid R1
    have L1 : Hid (Below w.heap.size w (w.alloc (.cells #[.int .i64 a, .int .i64 z, .int .i64 b, .string s] 37))) := Lib.hid ((Below.refl _ _).alloc (Nat.le_refl _) _)
    have X1 : Hid (Blk (w.alloc (.cells #[.int .i64 a, .int .i64 z, .int .i64 b, .string s] 37)) w.heap.size 37 #[.int .i64 a, .int .i64 z, .int .i64 b, .string s]) := Lib.hid (Blk.new _ _ _)
    clear HP hok R1 hp hln
    go_enter Try.func15, Try.ntmps15
    go_wp2_with fail
    refine (HPH.out _).mono ?_
    rintro e w2 ⟨rfl, hl2⟩
    have L2 := Lib.hid (L1.out.trans (hl2.mono (by simp)))
    have X2 := Lib.hid (X1.out.below hl2 (by simp))
    have s2 := L2.out.size
    have d0 := X2.out.cell 0
    have d1 := X2.out.cell 1
    have d2 := X2.out.cell 2
    have d3 := X2.out.cell 3
    simp only [List.getElem?_toArray, List.getElem?_cons_zero, List.getElem?_cons_succ] at d0 d1 d2 d3
    have R3 := Lib.hid (RN.out w2)
    have L3 : Hid (Below w.heap.size w (w2.alloc (.cells #[.int .i64 1, .int .i64 a, .string ⟨#[]⟩, .int .i64 1, .int .i64 z, .string ⟨#[]⟩, .int .i64 1, .int .i64 b, .string ⟨#[]⟩, .int .i64 2, .int .i64 0, .string s] 43))) := Lib.hid (L2.out.alloc s2 _)
    clear hl2 X1 L1
    go_wp2_with fail
    refine (HEN.out (some ⟨w2.heap.size, 0, none⟩) 4 (w2.heap.size + 1) _ R3.out (by simp) (Nat.le_refl _) (by unfold maxLen; omega)).mono ?_
    rintro e w4 ⟨v4, rfl, ho4, hl4⟩
    have L4 := Lib.hid (L3.out.trans (hl4.mono (by simp; omega)))
    obtain ⟨A4, c4, rfl, r4, lc4, cm4, _, _⟩ := ho4.shape (K.encs_lt _)
    have SC := conv_lst (c := c4) r4
    unfold maxLen at cm4
    clear ho4 hl4 r4 d0 d1 d2 d3
    go_wp2_with fail
    go_ret2
    exact ⟨rfl, L4.out⟩
  · have hok : K.okP p = false := by simpa using hok
    rw [if_neg (by rw [hok]; simp), if_neg (by rw [hok]; simp)]
    rw [hok] at HPH
    obtain ⟨a, z, b, s⟩ := p
    unfold ptA at HPH ⊢
    dsimp only at HPH ⊢
    have L1 : Hid (Below w.heap.size w (w.alloc (.cells #[.int .i64 a, .int .i64 z, .int .i64 b, .string s] 37))) := Lib.hid ((Below.refl _ _).alloc (Nat.le_refl _) _)
    clear HP hok hp
    go_enter Try.func15, Try.ntmps15
    go_wp2_with fail
    refine (HPH.out _).mono ?_
    rintro e w2 ⟨rfl, hl2⟩
    have L2 := Lib.hid (L1.out.trans (hl2.mono (by simp)))
    clear hl2
    go_wp2_with fail
    go_ret2
    exact ⟨rfl, L2.out⟩
set_option maxHeartbeats 1600000 in
theorem docPtr_any (p : K.Pt) (w : World) (hp : K.FitP p) :
    Calls Try.prog 14 #[.agg (ptA p)] w fun e w' => e = .returned (.tuple #[.string (K.ptrS p), .int .i64 (K.ptrE p)]) ∧ Below w.heap.size w w' := by
  have HPH := Lib.hid fun W => rightPtr_any p W hp.2.2.2
  have HG := Lib.hid (itsP_good hp)
  have HI := Lib.hid fun W => items_any p W
  unfold K.ptrS K.ptrE
  by_cases hok : K.okP p = true
  · rw [if_pos hok, if_pos hok]
    have HR := Lib.hid (K.itsP_right hok)
    rw [hok] at HPH
    have HEN := Lib.hid fun (A : Option Addr) (c B : Nat) (W : World) hx hB hlc hcm => refEncode_any A (K.itsP p) c B W hx hB HG.out hlc hcm HR.out
    obtain ⟨a, z, b, s⟩ := p
    unfold ptA at HPH HI ⊢
    dsimp only at HPH HI ⊢
    have L1 : Hid (Below w.heap.size w (w.alloc (.cells #[.int .i64 a, .int .i64 z, .int .i64 b, .string s] 37))) := Lib.hid ((Below.refl _ _).alloc (Nat.le_refl _) _)
    have X1 : Hid (Blk (w.alloc (.cells #[.int .i64 a, .int .i64 z, .int .i64 b, .string s] 37)) w.heap.size 37 #[.int .i64 a, .int .i64 z, .int .i64 b, .string s]) := Lib.hid (Blk.new _ _ _)
    clear hok hp
    go_enter Try.func14, Try.ntmps14
    go_wp2_with fail
    refine (HPH.out _).mono ?_
    rintro e w2 ⟨rfl, hl2⟩
    have L2 := Lib.hid (L1.out.trans (hl2.mono (by simp)))
    have X2 := Lib.hid (X1.out.below hl2 (by simp))
    have s2 := L2.out.size
    have LD := Lib.hid (load_blk X2.out Try.underlying37 rfl isize_ptr)
    clear hl2 X1 L1
    go_wp2_with (refine wpList_loadX rfl 37 (.tmp 1) rfl _ _ rfl LD.out ?_; refine of_hid ?_)
    refine Lib.hid ?_
    go_wp2_with fail
    refine (HI.out _).mono ?_
    rintro e w3 ⟨A3, c3, rfl, r3, lc3, cm3, hl3⟩
    have L3 := Lib.hid (L2.out.trans (hl3.mono s2))
    have R3 := Lib.hid r3
    have C3 := Lib.hid cm3
    clear hl3 r3
    go_wp2_with fail
    refine (HEN.out A3 c3 w3.heap.size _ R3.out (Nat.le_refl _) lc3 C3.out).mono ?_
    rintro e w4 ⟨rfl, hl4⟩
    have L4 := Lib.hid (L3.out.trans (hl4.mono L3.out.size))
    clear hl4
    go_wp2_with fail
    go_ret2
    exact ⟨rfl, L4.out⟩
  · have hok : K.okP p = false := by simpa using hok
    rw [if_neg (by rw [hok]; simp), if_neg (by rw [hok]; simp)]
    rw [hok] at HPH
    obtain ⟨a, z, b, s⟩ := p
    unfold ptA at HPH ⊢
    dsimp only at HPH ⊢
    have L1 : Hid (Below w.heap.size w (w.alloc (.cells #[.int .i64 a, .int .i64 z, .int .i64 b, .string s] 37))) := Lib.hid ((Below.refl _ _).alloc (Nat.le_refl _) _)
    clear hok hp
    go_enter Try.func14, Try.ntmps14
    go_wp2_with fail
    refine (HPH.out _).mono ?_
    rintro e w2 ⟨rfl, hl2⟩
    have L2 := Lib.hid (L1.out.trans (hl2.mono (by simp)))
    clear hl2
    go_wp2_with fail
    go_ret2
    exact ⟨rfl, L2.out⟩
end Go.Proofs.Ytiflkjjjncagfaa
