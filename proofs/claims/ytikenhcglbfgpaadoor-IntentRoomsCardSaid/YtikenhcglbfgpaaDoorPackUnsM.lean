/-
  'hoardref05.DocSector' by a contract: the document's sector of items. Conditions: what is handed in reads as items.
-/
import Derived.Test.YtikenhcglbfgpaaDoorPackSec
import Derived.Test.YtikenhcglbfgpaaDoorShaRefOpenM
import Derived.Test.YtikenhcglbfgpaaDoorDrawSplitAll
namespace Go.Proofs.YtikenhcglbfgpaaDoor
open Go Go.RowKit
set_option maxRecDepth 100000
set_option linter.unusedVariables false
theorem txt_app (L R : List Nat) : K.txt L ++ K.txt R = K.txt (L ++ R) := by
  unfold K.txt
  rw [List.map_append]
  apply ByteArray.ext
  rw [ByteArray.data_append]
  apply Array.toList_inj.1
  rw [Array.toList_append]
theorem len_txt (R : List Nat) (N : Nat) (h : R.length = N) (ty : TypeId) (w : World) : (Builtin.len_ #[9] ty #[.string (K.txt R)]).run Tryd.prog w = .ok (.int .i64 (N : Int)) w := by
  have hs := K.txt_size R
  rw [h] at hs
  simp [Builtin.len_, Builtin.lenOf, goInt, hs]
theorem conv_u8 (N : Nat) (h : N ≤ 127) (w : World) : (convert 3 5 (.int .i64 (N : Int))).run Tryd.prog w = .ok (.int .u8 ((N : Nat) : Int)) w := by
  have hw : IntKind.u8.wrap (N : Int) = (N : Int) := by rw [IntKind.wrap_u8]; omega
  simp [convert, run_underlying Tryd.underlying3, run_underlying Tryd.underlying5, go_sem, hw]
theorem sub_int (a b : Nat) (h : b ≤ a ∧ a ≤ 1000) (w : World) : (binOp .sub 3 (.int .i64 (a : Int)) (.int .i64 (b : Int))).run Tryd.prog w = .ok (.int .i64 ((a - b : Nat) : Int)) w := by
  have e : IntKind.i64.wrap ((a : Int) - (b : Int)) = ((a - b : Nat) : Int) := by rw [IntKind.wrap_i64]; omega
  have h : (binOp .sub 3 (.int .i64 (a : Int)) (.int .i64 (b : Int))).run Tryd.prog w = .ok (.int .i64 (IntKind.i64.wrap ((a : Int) - (b : Int)))) w := by kernel_rfl
  rw [h, e]
theorem add_txt (L R : List Nat) (h : L.length + R.length ≤ 100000) (w : World) : (binOp .add 9 (.string (K.txt L)) (.string (K.txt R))).run Tryd.prog w = .ok (.string (K.txt (L ++ R))) w := by
  have s1 := K.txt_size L
  have s2 := K.txt_size R
  have k := txt_app L R
  simp [binOp, Op.stringOp, k, s1, s2]
  omega
theorem conv_oneD (N : Nat) (hN : N < 256) {w : World} {g : Nat} (h : Blk w g 5 #[.int .u8 ((N : Nat) : Int)]) : (convert 38 9 (.slice (some ⟨g, 0, none⟩) 1 1)).run Tryd.prog w = .ok (.string (K.txt [N])) w := by
  have hr : RdB w (g + 1) (some ⟨g, 0, none⟩) [N].length (lst [N]) := fun j hj => by
    have hj' : j < 1 := hj
    obtain rfl : j = 0 := by omega
    exact ⟨g, 0, rfl, by omega, by rw [Nat.zero_add, h.cell]; rfl, hN⟩
  exact conv_lst (L := [N]) (c := 1) hr
theorem conv_zerosD {w : World} {g M : Nat} (h : Blk w g 5 (rowArr M fun _ => 0)) : (convert 38 9 (.slice (some ⟨g, 0, none⟩) M M)).run Tryd.prog w = .ok (.string (K.txt (List.replicate M 0))) w := by
  have hz : ∀ j, lst (List.replicate M 0) j = 0 := fun j => by
    unfold lst
    rw [List.getD_eq_getElem?_getD, List.getElem?_replicate]
    split <;> rfl
  have hl : (List.replicate M 0).length = M := List.length_replicate
  have hr : RdB w (g + 1) (some ⟨g, 0, none⟩) (List.replicate M 0).length (lst (List.replicate M 0)) := fun j hj => by
    rw [hl] at hj
    exact ⟨g, 0, rfl, by omega, by rw [Nat.zero_add, h.cell, rowArr_get hj, hz], by rw [hz]; omega⟩
  have k := conv_lst (L := List.replicate M 0) (c := M) hr
  rw [hl] at k
  exact k

end Go.Proofs.YtikenhcglbfgpaaDoor
namespace Go.Proofs.YtikenhcglbfgpaaDoor
open Go Go.RowKit
set_option maxRecDepth 100000
set_option linter.unusedVariables false
theorem uns_none {L : List Nat} (h : unsB L = none) : unsL L = [] ∧ unsE L = 2 := by
  unfold unsL unsE
  rw [h]
  exact ⟨rfl, rfl⟩
theorem uns_some {L N : List Nat} (h : unsB L = some N) : unsL L = outL N ∧ unsE L = outE N := by
  unfold unsL unsE
  rw [h]
  exact ⟨rfl, rfl⟩
/-- what 'Unsector' answers, by shape -/
def UnsOut (L : List Nat) (e : Ending) (w' : World) : Prop := ∃ A c, e = .returned (.tuple #[.slice A (unsL L).length c, .int .i64 (unsE L)]) ∧ RdT w' w'.heap.size A (unsL L) ∧ (unsL L).length ≤ c ∧ c ≤ maxLen
theorem UnsOut.bad {L : List Nat} (h : unsB L = none) (w' : World) : UnsOut L (.returned (.tuple #[.slice none 0 0, .int .i64 2])) w' := by
  obtain ⟨h1, h2⟩ := uns_none h
  refine ⟨none, 0, by rw [h1, h2]; rfl, fun j x hj => ?_, by rw [h1]; exact Nat.le_refl _, by unfold maxLen; omega⟩
  rw [h1] at hj
  simp at hj
theorem DecOut.uns {L N : List Nat} {base : Nat} {e : Ending} {w' : World} (hu : unsB L = some N) (h : DecOut N base e w') : UnsOut L e w' := by
  obtain ⟨A, c, he, hr, h1, h2⟩ := h.sh
  obtain ⟨e1, e2⟩ := uns_some hu
  exact ⟨A, c, by rw [he, e1, e2], by rw [e1]; exact hr, by rw [e1]; exact h1, h2⟩
theorem bodyL_length {L : List Nat} (h : L.length = 128) (hn : lst L 0 ≤ 127) : (bodyL L).length = lst L 0 := by
  unfold bodyL
  rw [List.length_drop, List.length_take]
  omega
theorem lst_body {L : List Nat} {j : Nat} (hj : j < lst L 0) : lst (bodyL L) j = lst L (1 + j) := by
  unfold bodyL
  have h := congrFun (lst_drop (L.take (1 + lst L 0)) 1) j
  rw [← h, lst_take (by omega)]
theorem body_lt {L : List Nat} (h : ∀ b ∈ L, b < 256) : ∀ b ∈ bodyL L, b < 256 := fun b hb => h b (List.mem_of_mem_take (List.mem_of_mem_drop hb))
theorem slice_mid (b o c n0 : Nat) (hc : 1 + n0 ≤ c) (W : World) : (Instr.slice 38 (.slice (some ⟨b, o, none⟩) 128 c) (some (.int .i64 1)) (some (.int .i64 (1 + (n0 : Int)))) none).run Tryd.prog W = .ok (.slice (subA (some ⟨b, o, none⟩) c 1) n0 (c - 1)) W := by
  have hu : Tryd.prog.underlying 38 = some (.slice (Tryd.prog.elem 38)) := by kernel_rfl
  have he : Tryd.prog.elem 38 = 5 := by kernel_rfl
  rw [run_slice_lh (P := Tryd.prog) (w := W) 38 (some ⟨b, o, none⟩) 128 c hu .i64 .i64 1 (1 + (n0 : Int)) (by omega) (by omega) (by omega), he, sizeOf_u8]
  have e1 : (1 + (n0 : Int)).toNat = 1 + n0 := by omega
  simp [sliced, subA, e1]
theorem slice_tail (b o c n0 : Nat) (hc : 1 + n0 ≤ 128) (W : World) : (Instr.slice 38 (.slice (some ⟨b, o, none⟩) 128 c) (some (.int .i64 (1 + (n0 : Int)))) none none).run Tryd.prog W = .ok (.slice (subA (some ⟨b, o, none⟩) c (1 + n0)) (128 - (1 + n0)) (c - (1 + n0))) W := by
  have h := slice_from (some ⟨b, o, none⟩) 128 c (1 + n0) (1 + (n0 : Int)) (by omega) hc W
  have hu : Tryd.prog.underlying 38 = some (.slice (Tryd.prog.elem 38)) := by kernel_rfl
  rw [run_sliceAt_slice (P := Tryd.prog) (w := W) (h := hu)] at h
  exact h

set_option maxHeartbeats 3200000 in
theorem unsector_any (A : Option Addr) (L : List Nat) (c B : Nat) (w : World) (hx : RdB w B A L.length (lst L)) (hB : B ≤ w.heap.size) (hL : ∀ x ∈ L, x < 256) (hlc : L.length ≤ c) (hcm : c ≤ maxLen) (hl : Laid w) :
    Calls Tryd.prog 38 #[.slice A L.length c] w fun e w' => UnsOut L e w' ∧ Below w.heap.size w w' := by
  have HLD := Lib.hid hl
  have HX := Lib.hid hx
  have HL := Lib.hid hL
  have HBB := Lib.hid hB
  have HCM := Lib.hid hcm
  have hcm' := hcm
  unfold maxLen at hcm'
  clear hl hL hB hcm
  by_cases h128 : L.length = 128
  · obtain ⟨b, o, rfl, hbB, hc0, hl0⟩ := hx 0 (by omega)
    rw [Nat.add_zero] at hc0
    have H128 := Lib.hid h128
    rw [h128] at hlc hx ⊢
    obtain ⟨n0, hn0⟩ : ∃ n0, n0 = lst L 0 := ⟨_, rfl⟩
    rw [← hn0] at hc0 hl0
    have HN0 := Lib.hid hn0
    clear h128 hn0
    by_cases hn : n0 ≤ 127
    · have t1 : 1 + (n0 : Int) ≤ 128 := by omega
      have sl1 := slice_tail b o c n0 (by omega) w
      have sl2 := slice_mid b o c n0 (by omega) w
      have hsub := hx.sub (c := c) (lo := 1 + n0) hlc
      have hmid : RdB w B (subA (some ⟨b, o, none⟩) c 1) n0 (lst (bodyL L)) := fun j hj => by
        obtain ⟨b', o', q1, q2, q3, q4⟩ := (hx.sub (c := c) (lo := 1) hlc) j (by omega)
        rw [lst_body (by rw [← HN0.out]; exact hj)]
        exact ⟨b', o', q1, q2, q3, q4⟩
      generalize hA1 : subA (some ⟨b, o, none⟩) c (1 + n0) = A1 at *
      generalize hA2 : subA (some ⟨b, o, none⟩) c 1 = A2 at *
      have HSUB := Lib.hid hsub
      have HMID := Lib.hid hmid
      obtain ⟨M, hM⟩ : ∃ M, M = 128 - (1 + n0) := ⟨_, rfl⟩
      rw [← hM] at sl1 HSUB
      have hM1 : M + 1 + n0 ≤ 128 := by omega
      have hM2 : 128 ≤ M + 1 + n0 := by omega
      clear hA1 hA2 hsub hmid hx hM
      go_enter Tryd.func38, Tryd.ntmps38
      go_wp2_with fail
      clear sl1
      go_loop [31] (fun x => ∃ k : Nat, k ≤ M ∧ x = .int .i64 k ∧ Hid (∀ j, j < k → lst L (1 + n0 + j) = 0)) (fun x => M - (intOf x).toNat)
      case atStart => exact ⟨0, by omega, rfl, Lib.hid fun j hj => absurd hj (by omega)⟩
      case round =>
        obtain ⟨k, hk, rfl, HZ⟩ := hrel
        by_cases hlt : k < M
        · have j1 : (k : Int) < (M : Int) := by omega
          obtain ⟨b', o', rfl, _, hck, hlk⟩ := HSUB.out k hlt
          dsimp only at hck hlk
          by_cases hz : lst L (1 + n0 + k) = 0
          · have HZ2 : Hid (∀ j, j < k + 1 → lst L (1 + n0 + j) = 0) := Lib.hid fun j hj => by
              by_cases e : j = k
              · rw [e]; exact hz
              · exact HZ.out j (by omega)
            rw [hz] at hck
            clear HZ HSUB hz hlk
            go_wp2_with fail
            go_round
            case rel => exact ⟨k + 1, by omega, by go_num, HZ2⟩
            case measure => simp [intOf]; omega
          · have hun : Hid (unsB L = none) := Lib.hid (by
              unfold unsB
              rw [if_neg]
              rintro ⟨_, _, h3, _⟩
              apply hz
              have hj : (L.drop (1 + lst L 0))[k]? = some (lst L (1 + n0 + k)) := by rw [List.getElem?_drop, ← HN0.out]; exact lst_in (by rw [H128.out]; omega)
              exact h3 _ (List.mem_of_getElem? hj))
            obtain ⟨y, hy⟩ : ∃ y, y = lst L (1 + n0 + k) := ⟨_, rfl⟩
            rw [← hy] at hck hz hlk
            have hne : ((y : Int) != 0) = true := by simpa using hz
            clear HZ HSUB hz hy
            go_wp2_with fail
            go_ret2
            exact ⟨UnsOut.bad hun.out _, Below.refl _ _⟩
        · obtain rfl : k = M := by omega
          have HDZ : Hid (∀ b ∈ L.drop (1 + lst L 0), b = 0) := Lib.hid fun y hy => by
            obtain ⟨j, hj, e⟩ := List.mem_iff_getElem.1 hy
            rw [List.length_drop, H128.out, ← HN0.out] at hj
            have e2 : (L.drop (1 + lst L 0))[j]? = some y := by rw [List.getElem?_eq_getElem (by rw [List.length_drop, H128.out, ← HN0.out]; exact hj), e]
            rw [List.getElem?_drop, ← HN0.out, lst_in (by rw [H128.out]; omega)] at e2
            injection e2 with e2
            rw [← e2]
            exact HZ.out j (by omega)
          have hbl : (bodyL L).length = n0 := by rw [bodyL_length H128.out (by rw [← HN0.out]; exact hn), ← HN0.out]
          have HBL := Lib.hid hbl
          have hcc : n0 ≤ c - 1 := by omega
          have hcc2 : Hid (c - 1 ≤ maxLen) := Lib.hid (by unfold maxLen; omega)
          clear HZ HSUB hlt hk hbl
          go_wp2_with fail
          by_cases hs : 32 ≤ n0 ∧ sealed n0 (lst (bodyL L))
          · have hun : Hid (unsB L = some ((bodyL L).take (n0 - 32))) := Lib.hid (by
              unfold unsB
              rw [if_pos ⟨H128.out, by rw [← HN0.out]; exact hn, HDZ.out, by rw [HBL.out]; exact hs.1, by rw [HBL.out]; exact hs.2⟩, HBL.out])
            refine (open_yes A2 n0 (c - 1) B (lst (bodyL L)) w HMID.out (lst_lt (body_lt HL.out)) HBB.out hcc hcc2.out (by omega) HLD.out hs.1 hs.2).mono ?_
            rintro e w1 ⟨⟨v1, rfl, ho1⟩, hl1⟩
            have L1 := Lib.hid hl1
            have hNl : ((bodyL L).take (n0 - 32)).length = n0 - 32 := by rw [List.length_take, HBL.out]; omega
            have HNB : Hid (∀ b ∈ (bodyL L).take (n0 - 32), b < 256) := Lib.hid fun b hb => body_lt HL.out b (List.mem_of_mem_take hb)
            have ho2 : OwnL w1 w.heap.size v1 ((bodyL L).take (n0 - 32)) := by
              unfold OwnL
              rw [hNl]
              exact ho1.congr fun j hj => (lst_take hj).symm
            obtain ⟨A5, c5, rfl, hr5, lc5, cm5, _, _⟩ := ho2.shape HNB.out
            have R5 := Lib.hid hr5
            have C5 := Lib.hid cm5
            generalize (bodyL L).take (n0 - 32) = N at *
            clear ho1 ho2 hr5 cm5 hl1 hNl hs
            go_wp2_with fail
            refine (decode_any A5 N c5 w1.heap.size w1 R5.out (Nat.le_refl _) HNB.out lc5 C5.out).mono ?_
            rintro e w2 ⟨hd, hl2⟩
            have L2 := Lib.hid (L1.out.trans (hl2.mono L1.out.size))
            have HO := Lib.hid (DecOut.uns hun.out hd)
            obtain ⟨A6, c6, e6, hr6, hc6, hm6⟩ := HO.out
            subst e6
            clear hd hl2 hr6 hc6 hm6
            go_wp2_with fail
            go_ret2
            exact ⟨HO.out, L2.out⟩
          · have hun : Hid (unsB L = none) := Lib.hid (by
              unfold unsB
              rw [if_neg]
              rintro ⟨_, _, _, h4, h5⟩
              rw [HBL.out] at h4 h5
              exact hs ⟨h4, h5⟩)
            by_cases h32 : 32 ≤ n0
            · refine (open_no A2 n0 (c - 1) B (lst (bodyL L)) w HMID.out (lst_lt (body_lt HL.out)) HBB.out hcc hcc2.out (by omega) HLD.out h32 (fun q => hs ⟨h32, q⟩)).mono ?_
              rintro e w1 ⟨rfl, hl1⟩
              have L1 := Lib.hid hl1
              clear hl1 hs
              go_wp2_with fail
              go_ret2
              exact ⟨UnsOut.bad hun.out _, L1.out⟩
            · refine (open_short A2 n0 (c - 1) w (by omega)).mono ?_
              rintro e w1 ⟨rfl, hl1⟩
              have L1 := Lib.hid hl1
              clear hl1 hs
              go_wp2_with fail
              go_ret2
              exact ⟨UnsOut.bad hun.out _, L1.out⟩
    · have hun : Hid (unsB L = none) := Lib.hid (by
        unfold unsB
        rw [if_neg]
        rintro ⟨_, h2, _⟩
        rw [← HN0.out] at h2
        exact hn h2)
      have t1 : (128 : Int) < 1 + (n0 : Int) := by omega
      clear hn hx
      go_enter Tryd.func38, Tryd.ntmps38
      go_wp2_with fail
      go_ret2
      exact ⟨UnsOut.bad hun.out _, Below.refl _ _⟩
  · have hun : Hid (unsB L = none) := Lib.hid (by
      unfold unsB
      rw [if_neg (fun q => h128 q.1)])
    have t1 : ((L.length : Int) != 128) = true := by simp; omega
    have t2 : ((L.length : Int) == 128) = false := by simp; omega
    clear hx h128
    go_enter Tryd.func38, Tryd.ntmps38
    go_wp2_with fail
    go_ret2
    exact ⟨UnsOut.bad hun.out _, Below.refl _ _⟩
end Go.Proofs.YtikenhcglbfgpaaDoor
