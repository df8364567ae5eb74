/-
  'pack.Unsector' by a contract: what a sector's bytes tell. Conditions: what is handed in reads as bytes.
-/
import Derived.Test.YthioanenljpclaaGreatDoorPackSecM
import Derived.Test.YthioanenljpclaaGreatDoorPackDocSecM
namespace Go.Proofs.YthioanenljpclaaGreatDoor
open Go Go.RowKit
set_option maxRecDepth 100000
set_option linter.unusedVariables false
theorem uns_none {L : List Nat} (h : unsB L = none) : unsL L = [] ∧ unsE L = 2 := by
  unfold unsL unsE
  rw [h]
  exact ⟨rfl, rfl⟩
theorem uns_some {L N : List Nat} (h : unsB L = some N) : unsL L = outL N ∧ unsE L = outE N := by
  unfold unsL unsE
  rw [h]
  exact ⟨rfl, rfl⟩
/-- what 'Unsector' answers, by shape -/
def UnsOut (L : List Nat) (e : Ending) (w' : World) : Prop := ∃ A c, e = .returned (.tuple #[.slice A (unsL L).length c, .int .i64 (unsE L)]) ∧ RdT w' w'.heap.size A (unsL L) ∧ (unsL L).length ≤ c ∧ c ≤ maxLen
theorem UnsOut.bad {L : List Nat} (h : unsB L = none) (w' : World) : UnsOut L (.returned (.tuple #[.slice none 0 0, .int .i64 2])) w' := by
  obtain ⟨h1, h2⟩ := uns_none h
  refine ⟨none, 0, by rw [h1, h2]; rfl, fun j x hj => ?_, by rw [h1]; exact Nat.le_refl _, by unfold maxLen; omega⟩
  rw [h1] at hj
  simp at hj
theorem DecOut.uns {L N : List Nat} {base : Nat} {e : Ending} {w' : World} (hu : unsB L = some N) (h : DecOut N base e w') : UnsOut L e w' := by
  obtain ⟨A, c, he, hr, h1, h2⟩ := h.sh
  obtain ⟨e1, e2⟩ := uns_some hu
  exact ⟨A, c, by rw [he, e1, e2], by rw [e1]; exact hr, by rw [e1]; exact h1, h2⟩
theorem bodyL_length {L : List Nat} (h : L.length = 128) (hn : lst L 0 ≤ 127) : (bodyL L).length = lst L 0 := by
  unfold bodyL
  rw [List.length_drop, List.length_take]
  omega
theorem lst_body {L : List Nat} {j : Nat} (hj : j < lst L 0) : lst (bodyL L) j = lst L (1 + j) := by
  unfold bodyL
  have h := congrFun (lst_drop (L.take (1 + lst L 0)) 1) j
  rw [← h, lst_take (by omega)]
theorem body_lt {L : List Nat} (h : ∀ b ∈ L, b < 256) : ∀ b ∈ bodyL L, b < 256 := fun b hb => h b (List.mem_of_mem_take (List.mem_of_mem_drop hb))
theorem slice_mid (b o c n0 : Nat) (hc : 1 + n0 ≤ c) (W : World) : (Instr.slice 51 (.slice (some ⟨b, o, none⟩) 128 c) (some (.int .i64 1)) (some (.int .i64 (1 + (n0 : Int)))) none).run Tryz.prog W = .ok (.slice (subA (some ⟨b, o, none⟩) c 1) n0 (c - 1)) W := by
  have hu : Tryz.prog.underlying 51 = some (.slice (Tryz.prog.elem 51)) := by kernel_rfl
  have he : Tryz.prog.elem 51 = 5 := by kernel_rfl
  rw [run_slice_lh (P := Tryz.prog) (w := W) 51 (some ⟨b, o, none⟩) 128 c hu .i64 .i64 1 (1 + (n0 : Int)) (by omega) (by omega) (by omega), he, sizeOf_u8]
  have e1 : (1 + (n0 : Int)).toNat = 1 + n0 := by omega
  simp [sliced, subA, e1]
theorem slice_tail (b o c n0 : Nat) (hc : 1 + n0 ≤ 128) (W : World) : (Instr.slice 51 (.slice (some ⟨b, o, none⟩) 128 c) (some (.int .i64 (1 + (n0 : Int)))) none none).run Tryz.prog W = .ok (.slice (subA (some ⟨b, o, none⟩) c (1 + n0)) (128 - (1 + n0)) (c - (1 + n0))) W := by
  have h := slice_from (some ⟨b, o, none⟩) 128 c (1 + n0) (1 + (n0 : Int)) (by omega) hc W
  have hu : Tryz.prog.underlying 51 = some (.slice (Tryz.prog.elem 51)) := by kernel_rfl
  rw [run_sliceAt_slice (P := Tryz.prog) (w := W) (h := hu)] at h
  exact h

set_option maxHeartbeats 3200000 in
theorem unsector_any (A : Option Addr) (L : List Nat) (c B : Nat) (w : World) (hx : RdB w B A L.length (lst L)) (hB : B ≤ w.heap.size) (hL : ∀ x ∈ L, x < 256) (hlc : L.length ≤ c) (hcm : c ≤ maxLen) (hl : Laid w) :
    Calls Tryz.prog 79 #[.slice A L.length c] w fun e w' => UnsOut L e w' ∧ Below w.heap.size w w' := by
  have HLD := Lib.hid hl
  have HX := Lib.hid hx
  have HL := Lib.hid hL
  have HBB := Lib.hid hB
  have HCM := Lib.hid hcm
  have hcm' := hcm
  unfold maxLen at hcm'
  clear hl hL hB hcm
  by_cases h128 : L.length = 128
  · obtain ⟨b, o, rfl, hbB, hc0, hl0⟩ := hx 0 (by omega)
    rw [Nat.add_zero] at hc0
    have H128 := Lib.hid h128
    rw [h128] at hlc hx ⊢
    obtain ⟨n0, hn0⟩ : ∃ n0, n0 = lst L 0 := ⟨_, rfl⟩
    rw [← hn0] at hc0 hl0
    have HN0 := Lib.hid hn0
    clear h128 hn0
    by_cases hn : n0 ≤ 127
    · have t1 : 1 + (n0 : Int) ≤ 128 := by omega
      have sl1 := slice_tail b o c n0 (by omega) w
      have sl2 := slice_mid b o c n0 (by omega) w
      have hsub := hx.sub (c := c) (lo := 1 + n0) hlc
      have hmid : RdB w B (subA (some ⟨b, o, none⟩) c 1) n0 (lst (bodyL L)) := fun j hj => by
        obtain ⟨b', o', q1, q2, q3, q4⟩ := (hx.sub (c := c) (lo := 1) hlc) j (by omega)
        rw [lst_body (by rw [← HN0.out]; exact hj)]
        exact ⟨b', o', q1, q2, q3, q4⟩
      generalize hA1 : subA (some ⟨b, o, none⟩) c (1 + n0) = A1 at *
      generalize hA2 : subA (some ⟨b, o, none⟩) c 1 = A2 at *
      have HSUB := Lib.hid hsub
      have HMID := Lib.hid hmid
      obtain ⟨M, hM⟩ : ∃ M, M = 128 - (1 + n0) := ⟨_, rfl⟩
      rw [← hM] at sl1 HSUB
      have hM1 : M + 1 + n0 ≤ 128 := by omega
      have hM2 : 128 ≤ M + 1 + n0 := by omega
      clear hA1 hA2 hsub hmid hx hM
      go_enter Tryz.func79, Tryz.ntmps79
      go_wp2_with fail
      clear sl1
      go_loop [31] (fun x => ∃ k : Nat, k ≤ M ∧ x = .int .i64 k ∧ Hid (∀ j, j < k → lst L (1 + n0 + j) = 0)) (fun x => M - (intOf x).toNat)
      case atStart => exact ⟨0, by omega, rfl, Lib.hid fun j hj => absurd hj (by omega)⟩
      case round =>
        obtain ⟨k, hk, rfl, HZ⟩ := hrel
        by_cases hlt : k < M
        · have j1 : (k : Int) < (M : Int) := by omega
          obtain ⟨b', o', rfl, _, hck, hlk⟩ := HSUB.out k hlt
          dsimp only at hck hlk
          by_cases hz : lst L (1 + n0 + k) = 0
          · have HZ2 : Hid (∀ j, j < k + 1 → lst L (1 + n0 + j) = 0) := Lib.hid fun j hj => by
              by_cases e : j = k
              · rw [e]; exact hz
              · exact HZ.out j (by omega)
            rw [hz] at hck
            clear HZ HSUB hz hlk
            go_wp2_with fail
            go_round
            case rel => exact ⟨k + 1, by omega, by go_num, HZ2⟩
            case measure => simp [intOf]; omega
          · have hun : Hid (unsB L = none) := Lib.hid (by
              unfold unsB
              rw [if_neg]
              rintro ⟨_, _, h3, _⟩
              apply hz
              have hj : (L.drop (1 + lst L 0))[k]? = some (lst L (1 + n0 + k)) := by rw [List.getElem?_drop, ← HN0.out]; exact lst_in (by rw [H128.out]; omega)
              exact h3 _ (List.mem_of_getElem? hj))
            obtain ⟨y, hy⟩ : ∃ y, y = lst L (1 + n0 + k) := ⟨_, rfl⟩
            rw [← hy] at hck hz hlk
            have hne : ((y : Int) != 0) = true := by simpa using hz
            clear HZ HSUB hz hy
            go_wp2_with fail
            go_ret2
            exact ⟨UnsOut.bad hun.out _, Below.refl _ _⟩
        · obtain rfl : k = M := by omega
          have HDZ : Hid (∀ b ∈ L.drop (1 + lst L 0), b = 0) := Lib.hid fun y hy => by
            obtain ⟨j, hj, e⟩ := List.mem_iff_getElem.1 hy
            rw [List.length_drop, H128.out, ← HN0.out] at hj
            have e2 : (L.drop (1 + lst L 0))[j]? = some y := by rw [List.getElem?_eq_getElem (by rw [List.length_drop, H128.out, ← HN0.out]; exact hj), e]
            rw [List.getElem?_drop, ← HN0.out, lst_in (by rw [H128.out]; omega)] at e2
            injection e2 with e2
            rw [← e2]
            exact HZ.out j (by omega)
          have hbl : (bodyL L).length = n0 := by rw [bodyL_length H128.out (by rw [← HN0.out]; exact hn), ← HN0.out]
          have HBL := Lib.hid hbl
          have hcc : n0 ≤ c - 1 := by omega
          have hcc2 : Hid (c - 1 ≤ maxLen) := Lib.hid (by unfold maxLen; omega)
          clear HZ HSUB hlt hk hbl
          go_wp2_with fail
          by_cases hs : 32 ≤ n0 ∧ sealed n0 (lst (bodyL L))
          · have hun : Hid (unsB L = some ((bodyL L).take (n0 - 32))) := Lib.hid (by
              unfold unsB
              rw [if_pos ⟨H128.out, by rw [← HN0.out]; exact hn, HDZ.out, by rw [HBL.out]; exact hs.1, by rw [HBL.out]; exact hs.2⟩, HBL.out])
            refine (open_yes A2 n0 (c - 1) B (lst (bodyL L)) w HMID.out (lst_lt (body_lt HL.out)) HBB.out hcc hcc2.out (by omega) HLD.out hs.1 hs.2).mono ?_
            rintro e w1 ⟨⟨v1, rfl, ho1⟩, hl1⟩
            have L1 := Lib.hid hl1
            have hNl : ((bodyL L).take (n0 - 32)).length = n0 - 32 := by rw [List.length_take, HBL.out]; omega
            have HNB : Hid (∀ b ∈ (bodyL L).take (n0 - 32), b < 256) := Lib.hid fun b hb => body_lt HL.out b (List.mem_of_mem_take hb)
            have ho2 : OwnL w1 w.heap.size v1 ((bodyL L).take (n0 - 32)) := by
              unfold OwnL
              rw [hNl]
              exact ho1.congr fun j hj => (lst_take hj).symm
            obtain ⟨A5, c5, rfl, hr5, lc5, cm5, _, _⟩ := ho2.shape HNB.out
            have R5 := Lib.hid hr5
            have C5 := Lib.hid cm5
            generalize (bodyL L).take (n0 - 32) = N at *
            clear ho1 ho2 hr5 cm5 hl1 hNl hs
            go_wp2_with fail
            refine (decode_any A5 N c5 w1.heap.size w1 R5.out (Nat.le_refl _) HNB.out lc5 C5.out).mono ?_
            rintro e w2 ⟨hd, hl2⟩
            have L2 := Lib.hid (L1.out.trans (hl2.mono L1.out.size))
            have HO := Lib.hid (DecOut.uns hun.out hd)
            obtain ⟨A6, c6, e6, hr6, hc6, hm6⟩ := HO.out
            subst e6
            clear hd hl2 hr6 hc6 hm6
            go_wp2_with fail
            go_ret2
            exact ⟨HO.out, L2.out⟩
          · have hun : Hid (unsB L = none) := Lib.hid (by
              unfold unsB
              rw [if_neg]
              rintro ⟨_, _, _, h4, h5⟩
              rw [HBL.out] at h4 h5
              exact hs ⟨h4, h5⟩)
            by_cases h32 : 32 ≤ n0
            · refine (open_no A2 n0 (c - 1) B (lst (bodyL L)) w HMID.out (lst_lt (body_lt HL.out)) HBB.out hcc hcc2.out (by omega) HLD.out h32 (fun q => hs ⟨h32, q⟩)).mono ?_
              rintro e w1 ⟨rfl, hl1⟩
              have L1 := Lib.hid hl1
              clear hl1 hs
              go_wp2_with fail
              go_ret2
              exact ⟨UnsOut.bad hun.out _, L1.out⟩
            · refine (open_short A2 n0 (c - 1) w (by omega)).mono ?_
              rintro e w1 ⟨rfl, hl1⟩
              have L1 := Lib.hid hl1
              clear hl1 hs
              go_wp2_with fail
              go_ret2
              exact ⟨UnsOut.bad hun.out _, L1.out⟩
    · have hun : Hid (unsB L = none) := Lib.hid (by
        unfold unsB
        rw [if_neg]
        rintro ⟨_, h2, _⟩
        rw [← HN0.out] at h2
        exact hn h2)
      have t1 : (128 : Int) < 1 + (n0 : Int) := by omega
      clear hn hx
      go_enter Tryz.func79, Tryz.ntmps79
      go_wp2_with fail
      go_ret2
      exact ⟨UnsOut.bad hun.out _, Below.refl _ _⟩
  · have hun : Hid (unsB L = none) := Lib.hid (by
      unfold unsB
      rw [if_neg (fun q => h128 q.1)])
    have t1 : ((L.length : Int) != 128) = true := by simp; omega
    have t2 : ((L.length : Int) == 128) = false := by simp; omega
    clear hx h128
    go_enter Tryz.func79, Tryz.ntmps79
    go_wp2_with fail
    go_ret2
    exact ⟨UnsOut.bad hun.out _, Below.refl _ _⟩
end Go.Proofs.YthioanenljpclaaGreatDoor
namespace Go.Proofs.YthioanenljpclaaGreatDoor
open Go Go.RowKit
set_option maxRecDepth 100000
set_option linter.unusedVariables false
theorem slice_strMid (s : ByteArray) (n0 : Nat) (h : 1 + n0 ≤ s.size) (W : World) : (Instr.slice 9 (.string s) (some (.int .i64 1)) (some (.int .i64 (1 + (n0 : Int)))) none).run Tryz.prog W = .ok (.string (K.txt (((K.sb s).take (1 + n0)).drop 1))) W := by
  have e := sb_extract s 1 (1 + n0) (by omega) h
  have e1 : (1 + (n0 : Int)).toNat = 1 + n0 := by omega
  have hu := Tryz.underlying9
  rw [← e]
  simp [Instr.slice, run_underlying hu, Instr.sliceBounds, run_sliceBound, go_sem, e1]
  rw [if_pos ⟨by omega, by omega⟩, if_pos (by omega)]
theorem uns_or {L : List Nat} (h128 : L.length = 128) (hn : lst L 0 ≤ 127) : unsB L = none ∨ unsB L = some ((bodyL L).take (lst L 0 - 32)) := by
  unfold unsB
  rw [bodyL_length h128 hn]
  split
  · exact .inr rfl
  · exact .inl rfl
theorem good_decs {N : List Nat} {l : List K.It} (hN : ∀ b ∈ N, b < 256) (h : K.decs 2000 N = some l) : (∀ x ∈ l, Good x) ∧ K.fault l = 0 ∧ K.encs l = N := by
  obtain ⟨h1, h2, h3, h4⟩ := K.decs_back 2000 N l hN h
  refine ⟨fun x hx => ⟨h4 x hx, ?_⟩, K.fault_right h2 h3, h1.symm⟩
  rcases (h3 x hx).cases with ⟨_, e⟩ | ⟨_, _, e⟩
  · rw [e]; unfold maxLen; show 0 ≤ _; omega
  · unfold maxLen; omega
theorem UnsOut.own {L N : List Nat} {l : List K.It} {A : Option Addr} {c : Nat} {w' : World} (hu : unsB L = some N) (hd : K.decs 2000 N = some l) (hr : RdT w' w'.heap.size A l) (hlc : l.length ≤ c) (hcm : c ≤ maxLen) : UnsOut L (.returned (.tuple #[.slice A l.length c, .int .i64 0])) w' := by
  obtain ⟨e1, e2⟩ := uns_some hu
  have e3 : outL N = l := by unfold outL; rw [hd]; rfl
  have e4 : outE N = 0 := by unfold outE; rw [hd]; rfl
  exact ⟨A, c, by rw [e1, e2, e3, e4], by rw [e1, e3]; exact hr, by rw [e1, e3]; exact hlc, hcm⟩
theorem UnsOut.dec_none {L N : List Nat} (hu : unsB L = none ∨ unsB L = some N) (hd : K.decs 2000 N = none) (w' : World) : UnsOut L (.returned (.tuple #[.slice none 0 0, .int .i64 2])) w' := by
  rcases hu with hu | hu
  · exact UnsOut.bad hu w'
  · exact DecOut.uns (base := 0) hu (.inl ⟨hd, rfl⟩)
theorem txt_ne {L R : List Nat} (hL : ∀ b ∈ L, b < 256) (hR : ∀ b ∈ R, b < 256) (h : L ≠ R) : ((K.txt L).toList == (K.txt R).toList) = false := by
  cases e : ((K.txt L).toList == (K.txt R).toList) with
  | false => rfl
  | true =>
    have e2 : (K.txt L).toList = (K.txt R).toList := by simpa using e
    have e3 := bytes_eq e2
    have e4 := congrArg K.sb e3
    rw [K.sb_txt hL, K.sb_txt hR] at e4
    exact absurd e4 h

set_option maxHeartbeats 3200000 in
theorem docUnsector_any (L : List Nat) (w : World) (hL : ∀ x ∈ L, x < 256) (hsz : L.length ≤ 1000) :
    Calls Tryz.prog 81 #[.string (K.txt L)] w fun e w' => UnsOut L e w' ∧ Below w.heap.size w w' := by
  have HL := Lib.hid hL
  have hts : (K.txt L).size = L.length := K.txt_size L
  have hsb := K.sb_txt hL
  clear hL
  by_cases h128 : L.length = 128
  · obtain ⟨n0, hn0⟩ : ∃ n0, n0 = lst L 0 := ⟨_, rfl⟩
    have hix : (Instr.index 9 (.string (K.txt L)) (.int .i64 0)).run Tryz.prog w = .ok (.int .u8 ((n0 : Nat) : Int)) w := by
      have h := index_sb (K.txt L) 0 n0 (by rw [hsb, lst_in (by omega), hn0]) w
      exact h
    have hl0 : n0 < 256 := by rw [hn0]; exact lst_lt HL.out 0
    have H128 := Lib.hid h128
    have HN0 := Lib.hid hn0
    rw [h128] at hts
    clear h128 hn0
    by_cases hn : n0 ≤ 127
    · have hbody : ((K.sb (K.txt L)).take (1 + n0)).drop 1 = bodyL L := by rw [hsb, HN0.out]; rfl
      have hsl := slice_strMid (K.txt L) n0 (by omega) w
      rw [hbody] at hsl
      have hbl : (bodyL L).length = n0 := by rw [bodyL_length H128.out (by rw [← HN0.out]; exact hn), ← HN0.out]
      have htx : strB n0 (lst (bodyL L)) = K.txt (bodyL L) := by rw [← hbl]; exact strB_lst _
      have HBL := Lib.hid hbl
      have HTX := Lib.hid htx
      have HBS : Hid ((K.txt (bodyL L)).size = n0) := Lib.hid (by rw [K.txt_size, hbl])
      clear hbody hsb hbl htx
      by_cases hs : 32 ≤ n0 ∧ sealed n0 (lst (bodyL L))
      · have hop := docOpen_yes n0 (lst (bodyL L)) w (lst_lt (body_lt HL.out)) (by omega) hs.1 hs.2
        have hNl : ((bodyL L).take (n0 - 32)).length = n0 - 32 := by rw [List.length_take, HBL.out]; omega
        have htn : strB (n0 - 32) (lst (bodyL L)) = K.txt ((bodyL L).take (n0 - 32)) := by
          rw [← strB_lst, hNl]
          exact strB_congr fun j hj => (lst_take hj).symm
        rw [HTX.out, htn] at hop
        have HOP := Lib.hid hop
        have HUO : Hid (unsB L = none ∨ unsB L = some ((bodyL L).take (n0 - 32))) := Lib.hid (by
          have h := uns_or H128.out (by rw [← HN0.out]; exact hn)
          rw [← HN0.out] at h
          exact h)
        have HNB : Hid (∀ b ∈ (bodyL L).take (n0 - 32), b < 256) := Lib.hid fun b hb => body_lt HL.out b (List.mem_of_mem_take hb)
        generalize (bodyL L).take (n0 - 32) = N at *
        have hN95 : N.length ≤ 95 := by omega
        have h32 := hs.1
        clear hs hop htn hNl
        go_enter Tryz.func81, Tryz.ntmps81
        go_wp2_with fail
        refine HOP.out.mono ?_
        rintro e w1 ⟨rfl, hl1⟩
        have L1 := Lib.hid hl1
        clear hl1 HOP hix hsl
        go_wp2_with fail
        refine (docDecode_any N w1 HNB.out (by unfold maxLen; omega)).mono ?_
        rintro e w2 ⟨hd, hl2⟩
        have L2 := Lib.hid (L1.out.trans (hl2.mono L1.out.size))
        clear hl2
        rcases hd with ⟨hdn, rfl⟩ | ⟨l, v, hdn, rfl, hov⟩
        · have HD := Lib.hid hdn
          clear hdn
          go_wp2_with fail
          go_ret2
          exact ⟨UnsOut.dec_none HUO.out HD.out _, L2.out⟩
        · obtain ⟨hgl, hfl, hel⟩ := good_decs HNB.out hdn
          have hse := secE_ok hfl (by rw [hel]; exact hN95)
          have hsl2 : secL l = secB N := by unfold secL; rw [if_pos hse, hel]
          obtain ⟨A5, c5, rfl, lc5, cm5, hr5, _, _⟩ := hov.shape
          have HD := Lib.hid hdn
          have R5 := Lib.hid hr5
          have C5 := Lib.hid cm5
          have HG := Lib.hid hgl
          have hsec := docSector_any A5 l c5 w2.heap.size w2 hr5 (Nat.le_refl _) hgl lc5 cm5
          rw [hse, hsl2] at hsec
          have HSEC := Lib.hid hsec
          unfold maxLen at cm5
          clear hgl hfl hel hse hsl2 hov hdn hr5 hsec
          go_wp2_with fail
          refine HSEC.out.mono ?_
          rintro e w3 ⟨rfl, hl3⟩
          have L3 := Lib.hid (L2.out.trans (hl3.mono L2.out.size))
          have R6 := Lib.hid (R5.out.below hl3 (Nat.le_refl _))
          have hs23 := hl3.size
          clear hl3 R5 HSEC
          by_cases heq : secB N = L
          · have hun : Hid (unsB L = some N) := Lib.hid (by rw [← heq]; exact unsB_sec hN95)
            rw [heq]
            clear heq
            go_wp2_with fail
            go_ret2
            exact ⟨UnsOut.own hun.out HD.out (fun j x hj => by obtain ⟨b, o, q1, q2, q3⟩ := R6.out j x hj; exact ⟨b, o, q1, by omega, q3⟩) lc5 C5.out, L3.out⟩
          · have hun : Hid (unsB L = none) := Lib.hid (by
              rcases HUO.out with h | h
              · exact h
              · exact absurd (unsB_back h).2.symm heq)
            have hne := txt_ne (secB_lt hN95 HNB.out) HL.out heq
            generalize K.txt (secB N) = ts at *
            generalize K.txt L = tl at *
            clear heq
            go_wp2_with fail
            go_ret2
            exact ⟨UnsOut.bad hun.out _, L3.out⟩
      · have hun : Hid (unsB L = none) := Lib.hid (by
          unfold unsB
          rw [if_neg]
          rintro ⟨_, _, _, h4, h5⟩
          rw [HBL.out] at h4 h5
          exact hs ⟨h4, h5⟩)
        have HOP : Hid (Calls Tryz.prog 91 #[.string (K.txt (bodyL L))] w fun e w' => e = .returned (.tuple #[.string ⟨#[]⟩, .int .i64 2]) ∧ Below w.heap.size w w') := Lib.hid (by
          rw [← HTX.out]
          by_cases h32 : 32 ≤ n0
          · exact docOpen_no n0 (lst (bodyL L)) w (lst_lt (body_lt HL.out)) (by omega) h32 (fun q => hs ⟨h32, q⟩)
          · exact docOpen_short n0 (lst (bodyL L)) w (lst_lt (body_lt HL.out)) (by omega) (by omega))
        clear hs
        go_enter Tryz.func81, Tryz.ntmps81
        go_wp2_with fail
        refine HOP.out.mono ?_
        rintro e w1 ⟨rfl, hl1⟩
        have L1 := Lib.hid hl1
        clear hl1 HOP hix hsl
        go_wp2_with fail
        go_ret2
        exact ⟨UnsOut.bad hun.out _, L1.out⟩
    · have hun : Hid (unsB L = none) := Lib.hid (by
        unfold unsB
        rw [if_neg]
        rintro ⟨_, h2, _⟩
        rw [← HN0.out] at h2
        exact hn h2)
      have t1 : (127 : Int) < (n0 : Int) := by omega
      clear hn hsb
      go_enter Tryz.func81, Tryz.ntmps81
      go_wp2_with fail
      go_ret2
      exact ⟨UnsOut.bad hun.out _, Below.refl _ _⟩
  · have hun : Hid (unsB L = none) := Lib.hid (by
      unfold unsB
      rw [if_neg (fun q => h128 q.1)])
    have t1 : ((L.length : Int) != 128) = true := by simp; omega
    have t2 : ((L.length : Int) == 128) = false := by simp; omega
    clear h128 hsb
    go_enter Tryz.func81, Tryz.ntmps81
    go_wp2_with fail
    go_ret2
    exact ⟨UnsOut.bad hun.out _, Below.refl _ _⟩
end Go.Proofs.YthioanenljpclaaGreatDoor
