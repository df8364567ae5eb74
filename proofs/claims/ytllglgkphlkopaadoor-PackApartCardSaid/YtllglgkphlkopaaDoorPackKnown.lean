/-
  'hoardlaw05.known' answers true; 'hoardref05.Same' by contracts. Conditions: lists that read as items.
-/
import Derived.Test.YtllglgkphlkopaaDoorPackDec
namespace Go.Proofs.YtllglgkphlkopaaDoor
open Go Go.RowKit
set_option linter.unusedVariables false

theorem rdi_new (w : World) (l : List K.It) : RdI (w.alloc (.cells (icells l).toArray 31)) (w.heap.size + 1) (some ⟨w.heap.size, 0, none⟩) l := by
  intro j x hj
  obtain ⟨c0, c1, c2⟩ := icells_get l j x hj
  have d : ∀ i u, (icells l)[i]? = some u → (w.alloc (.cells (icells l).toArray 31)).cell? ⟨w.heap.size, i, none⟩ = some u := fun i u hu => by
    rw [cell_of_row _ _ _ _ _ _ (Blk.new w 31 (icells l).toArray)]
    simpa using hu
  exact ⟨w.heap.size, 0, rfl, by omega, by rw [Nat.zero_add]; exact d _ _ c0, by rw [Nat.zero_add]; exact d _ _ c1, by rw [Nat.zero_add]; exact d _ _ c2⟩
def knownL : List K.It := [⟨1, -1, ⟨#[]⟩⟩, ⟨2, 0, ⟨#[97, 98]⟩⟩, ⟨1, 64, ⟨#[]⟩⟩]
theorem knownL_fault : K.fault knownL = 0 := by decide +kernel
theorem sb_ab : K.sb ⟨#[97, 98]⟩ = [97, 98] := rfl
theorem knownL_encs : K.encs knownL = [1, 1, 2, 2, 97, 98, 1, 128, 1] := by
  have f1 : K.fold (-1) = 1 := by decide
  have f2 : K.fold 64 = 128 := by decide
  have s2 : (⟨#[97, 98]⟩ : ByteArray).size = 2 := rfl
  have c1 : K.cnt 1 = [1] := K.cnt_small (by omega)
  have c2 : K.cnt 2 = [2] := K.cnt_small (by omega)
  have c3 : K.cnt 128 = [128, 1] := by rw [K.cnt_big (by omega)]; show (128 + 0) :: K.cnt 1 = _; rw [c1]
  show K.encI ⟨1, -1, ⟨#[]⟩⟩ ++ (K.encI ⟨2, 0, ⟨#[97, 98]⟩⟩ ++ (K.encI ⟨1, 64, ⟨#[]⟩⟩ ++ [])) = _
  unfold K.encI
  rw [if_pos rfl, if_neg (by decide), if_pos rfl]
  show (1 :: K.cnt (K.fold (-1))) ++ ((2 :: (K.cnt (⟨#[97, 98]⟩ : ByteArray).size ++ K.sb ⟨#[97, 98]⟩)) ++ ((1 :: K.cnt (K.fold 64)) ++ [])) = _
  rw [f1, f2, s2, c1, c2, c3, sb_ab]
  rfl
theorem OwnL.shape {w : World} {base : Nat} {v : Value} {L : List Nat} (h : OwnL w base v L) (hL : ∀ x ∈ L, x < 256) : ∃ A c, v = .slice A L.length c ∧ RdB w w.heap.size A L.length (lst L) ∧ L.length ≤ c ∧ c ≤ maxLen ∧ (∀ g o, A = some ⟨g, o, none⟩ → base ≤ g) ∧ (A = none → c = 0) :=
  Own8.shape h fun j _ => lst_lt hL j
theorem OwnL.below {w w' : World} {base B : Nat} {v : Value} {L : List Nat} (h : OwnL w base v L) (hk : Below B w w') (hB : w.heap.size ≤ B) : OwnL w' base v L := Own8.below h hk hB
theorem conv_lst {w : World} {B c : Nat} {A : Option Addr} {L : List Nat} (h : RdB w B A L.length (lst L)) : (convert 22 9 (.slice A L.length c)).run Tryd.prog w = .ok (.string (K.txt L)) w := by
  rw [← strB_lst]
  exact conv_rd h
theorem knownL_good : ∀ x ∈ knownL, Good x := by
  intro x hx
  simp only [knownL, List.mem_cons, List.not_mem_nil, or_false] at hx
  rcases hx with rfl | rfl | rfl
  · exact ⟨by unfold K.Fits; decide, by unfold maxLen; decide⟩
  · exact ⟨by unfold K.Fits; decide, by unfold maxLen; decide⟩
  · exact ⟨by unfold K.Fits; decide, by unfold maxLen; decide⟩
set_option maxRecDepth 100000 in
set_option maxHeartbeats 800000 in
theorem known_any (w : World) : Calls Tryd.prog 4 #[] w fun e w' => e = .returned (.bool true) ∧ Below w.heap.size w w' := by
  have R0 : Hid (RdI (w.alloc (.cells #[.int .i64 1, .int .i64 (-1), .string ⟨#[]⟩, .int .i64 2, .int .i64 0, .string ⟨#[97, 98]⟩, .int .i64 1, .int .i64 64, .string ⟨#[]⟩] 31)) (w.heap.size + 1) (some ⟨w.heap.size, 0, none⟩) knownL) := Lib.hid (rdi_new w knownL)
  have L0 : Hid (Below w.heap.size w (w.alloc (.cells #[.int .i64 1, .int .i64 (-1), .string ⟨#[]⟩, .int .i64 2, .int .i64 0, .string ⟨#[97, 98]⟩, .int .i64 1, .int .i64 64, .string ⟨#[]⟩] 31))) := Lib.hid ((Below.refl _ _).alloc (Nat.le_refl _) _)
  go_enter Tryd.func4, Tryd.ntmps4
  go_wp2_with fail
  refine (encode_ok (some ⟨w.heap.size, 0, none⟩) knownL 3 (w.heap.size + 1) _ R0.out (by simp) knownL_good (Nat.le_refl _) (by unfold maxLen; omega) knownL_fault).mono ?_
  rintro e w1 ⟨v, rfl, ho, hl1⟩
  have L1 : Hid (Below w.heap.size w w1) := Lib.hid (L0.out.trans (hl1.mono (by simp)))
  obtain ⟨A, c, rfl, hrd, hlc, hcm, _, _⟩ := ho.shape (K.encs_lt _)
  have SC := conv_lst (c := c) hrd
  have hlen : (K.encs knownL).length = 9 := by rw [knownL_encs]; rfl
  rw [hlen, knownL_encs, show K.txt [1, 1, 2, 2, 97, 98, 1, 128, 1] = ⟨#[1, 1, 2, 2, 97, 98, 1, 128, 1]⟩ by kernel_rfl] at SC
  rw [hlen]
  clear hl1 ho hrd R0 L0
  go_wp2_with fail
  go_outline
  go_ret
  exact ⟨rfl, L1.out⟩
end Go.Proofs.YtllglgkphlkopaaDoor
