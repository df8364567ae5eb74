/-
  The walk of 'PackRooms': a text has room in a sector up to 93 bytes; one byte of a sector that is another one is told, just where the document tells it.
-/
import Derived.Test.YtnmieabcaaoofaaDoorPackDocUns
import Derived.Test.YtnmieabcaaoofaaDoorPackKnown
namespace Go.Proofs.YtnmieabcaaoofaaDoor
open Go Go.RowKit
set_option maxRecDepth 100000
set_option linter.unusedVariables false
namespace packRooms
def zs (N : Nat) : ByteArray := K.txt (List.replicate N 0)
def itm (N : Nat) : K.It := ⟨2, 0, zs N⟩
theorem zs_size (N : Nat) : (zs N).size = N := by unfold zs; rw [K.txt_size, List.length_replicate]
theorem itm_good (N : Nat) (h : N ≤ 1000) : ∀ x ∈ [itm N], Good x := fun x hx => by
  obtain rfl : x = itm N := by simpa using hx
  have hz := zs_size N
  exact ⟨⟨by show (-9223372036854775808 : Int) ≤ 0; omega, by show (0 : Int) ≤ 9223372036854775807; omega⟩, by show (zs N).size ≤ maxLen; rw [hz]; unfold maxLen; omega⟩
theorem itm_fault (N : Nat) (h : N ≤ 1000) : K.fault [itm N] = 0 := by
  have hz := zs_size N
  refine K.fault_right (by simp) fun x hx => ?_
  obtain rfl : x = itm N := by simpa using hx
  refine ⟨rfl, ?_⟩
  show decide ((2 : Int) = 2 ∧ 4000 < (zs N).size) = false
  rw [hz]
  simp
  omega
theorem itm_len (N : Nat) : (K.encs [itm N]).length = 1 + (K.cnt N).length + N := by
  have hz := zs_size N
  show (K.encI (itm N) ++ K.encs []).length = _
  rw [show K.encs [] = [] from rfl, List.append_nil]
  show (2 :: (K.cnt (zs N).size ++ K.sb (zs N))).length = _
  rw [List.length_cons, List.length_append, K.sb_length, hz]
  omega
theorem itm_sec (N : Nat) (h : N < 130) : secE [itm N] = if 93 < N then 14 else 0 := by
  have hf := itm_fault N (by omega)
  have hl := itm_len N
  unfold secE
  rw [if_neg (fun q => q hf)]
  by_cases h1 : N < 128
  · rw [K.cnt_small h1] at hl
    have hl2 : (K.encs [itm N]).length = N + 2 := by rw [hl]; simp; omega
    rw [hl2]
    by_cases h2 : 93 < N
    · rw [if_pos h2, if_pos (by omega)]
    · rw [if_neg h2, if_neg (by omega)]
  · rw [if_pos (by omega), if_pos (by omega)]
theorem xor_u8R (a b : Nat) (ha : a < 256) (hb : b < 256) : bits .xor .u8 (a : Int) (b : Int) = ((a ^^^ b : Nat) : Int) := by
  have hx : a ^^^ b < 256 := Nat.xor_lt_two_pow (n := 8) ha hb
  show IntKind.u8.wrap ((BitVec.ofInt 8 (a : Int) ^^^ BitVec.ofInt 8 (b : Int)).toNat : Int) = _
  rw [BitVec.toNat_xor, BitVec.ofInt_natCast, BitVec.ofInt_natCast, BitVec.toNat_ofNat, BitVec.toNat_ofNat, Nat.mod_eq_of_lt (by omega), Nat.mod_eq_of_lt (by omega), IntKind.wrap_u8]
  omega
theorem lst_set (L : List Nat) (k v j : Nat) (hk : k < L.length) : lst (L.set k v) j = upd (lst L) k v j := by
  unfold lst upd
  rw [List.getD_eq_getElem?_getD, List.getElem?_set]
  by_cases h : k = j
  · subst h
    rw [if_pos rfl, if_pos hk, if_pos rfl]
    rfl
  · rw [if_neg h, if_neg (fun q => h q.symm)]
    show L[j]?.getD 0 = L.getD j 0
    rw [List.getD_eq_getElem?_getD]
theorem u64_mod (a m : Int) (h0 : 0 < m) (hm : m ≤ 1000) : ∃ N : Nat, (IntKind.u64.wrap a).tmod m = (N : Int) ∧ (N : Int) < m := by
  have hw : 0 ≤ IntKind.u64.wrap a := by simp [IntKind.wrap, IntKind.bits, IntKind.signed]; omega
  have h1 := Int.emod_nonneg (IntKind.u64.wrap a) (show m ≠ 0 by omega)
  have h2 := Int.emod_lt_of_pos (IntKind.u64.wrap a) h0
  exact ⟨((IntKind.u64.wrap a) % m).toNat, by rw [Int.tmod_eq_emod_of_nonneg hw]; omega, by omega⟩

set_option maxHeartbeats 3200000 in
theorem walk (a0 a1 a2 : Int) (w : World) (w0 : (Lit.int .i64 a0).wf = true) (w1 : (Lit.int .i64 a1).wf = true) (w2 : (Lit.int .u8 a2).wf = true) (hl : Laid w) :
    Calls Tryd.prog 5 #[.int .i64 a0, .int .i64 a1, .int .u8 a2] w fun e w' => e = .returned (.bool true) ∧ Below w.heap.size w w' := by
  have HLD := Lib.hid hl
  have hpos := hl.pos
  obtain ⟨p1, p2⟩ := bounds_i64 w0
  obtain ⟨p3, p4⟩ := bounds_i64 w1
  have hb2 := bounds_u8 w2
  obtain ⟨x, rfl, hx256⟩ : ∃ x : Nat, a2 = (x : Int) ∧ x < 256 := ⟨a2.toNat, by omega, by omega⟩
  clear w0 w1 w2 hl hb2
  obtain ⟨N, hN, hN130⟩ := u64_mod a0 130 (by omega) (by omega)
  obtain ⟨k, hk, hk128⟩ := u64_mod a1 128 (by omega) (by omega)
  have HK := Lib.hid hk
  go_enter Tryd.func5, Tryd.ntmps5
  go_wp2_with fail
  refine (known_any _).mono ?_
  rintro e w3 ⟨rfl, hl3⟩
  have L3 := Lib.hid hl3
  have s3 := hl3.size
  have hmk := make_long N (by omega) w3 (N : Int) rfl
  have hcv := conv_zerosD (Blk.new w3 5 (rowArr N fun _ => 0))
  have HG : Hid (∀ y ∈ [itm N], Good y) := Lib.hid (itm_good N (by omega))
  have HSE : Hid (secE [itm N] = if 93 < N then 14 else 0) := Lib.hid (itm_sec N (by omega))
  obtain ⟨z, hz⟩ : ∃ z, z = zs N := ⟨_, rfl⟩
  rw [show K.txt (List.replicate N 0) = zs N from rfl, ← hz] at hcv
  have HZS : Hid (z.size = N) := Lib.hid (by rw [hz]; exact zs_size N)
  have HIT : Hid (itm N = ⟨2, 0, z⟩) := Lib.hid (by rw [hz]; rfl)
  clear hl3 hz hk
  go_wp2_with fail
  clear hmk hcv hN
  have hri := rdi_new (w3.alloc (.cells (rowArr N fun _ => 0) 5)) [itm N]
  rw [HIT.out] at hri
  have e1 : (w3.alloc (.cells (rowArr N fun _ => 0) 5)).heap.size = w3.heap.size + 1 := by simp
  rw [e1] at hri
  have L4 : Hid (Below w.heap.size w ((w3.alloc (.cells (rowArr N fun _ => 0) 5)).alloc (.cells #[.int .i64 2, .int .i64 0, .string z] 36))) := Lib.hid ((L3.out.alloc s3 _).alloc (by simp; omega) _)
  have hsec := sector_any (some ⟨w3.heap.size + 1, 0, none⟩) [itm N] 1 (w3.heap.size + 1 + 1) ((w3.alloc (.cells (rowArr N fun _ => 0) 5)).alloc (.cells #[.int .i64 2, .int .i64 0, .string z] 36)) (by rw [HIT.out]; exact hri) (by simp) HG.out (Nat.le_refl 1) (by unfold maxLen; omega) (HLD.out.below L4.out hpos)
  refine hsec.mono ?_
  clear hsec hri e1 s3 L3
  rintro e w5 ⟨⟨v5, rfl, ho5⟩, hl5⟩
  have L5 := Lib.hid (L4.out.trans (hl5.mono L4.out.size))
  have s4 := L4.out.size
  clear hl5 L4
  rw [HSE.out]
  by_cases hbig : 93 < N
  · have hsl : secL [itm N] = [] := by unfold secL; rw [HSE.out, if_pos hbig, if_neg (by omega)]
    rw [hsl] at ho5
    rw [if_pos hbig]
    obtain ⟨A5, c5, rfl, _, _, _, _, _⟩ := ho5.shape (fun b hb => by cases hb)
    have t1 : (93 : Int) < (N : Int) := by omega
    clear hsl ho5 hbig HK
    go_wp2_with fail
    go_ret
    exact ⟨rfl, L5.out⟩
  have hse : secE [itm N] = 0 := by rw [HSE.out, if_neg hbig]
  obtain ⟨h1, h2⟩ := secE_zero hse
  have hsl : secL [itm N] = secB (K.encs [itm N]) := by unfold secL; rw [if_pos hse]
  obtain ⟨hb1, hb2⟩ := secL_back hse (fun y hy => (HG.out y hy).1)
  rw [hsl] at ho5 hb1 hb2
  have HSL : Hid ((secB (K.encs [itm N])).length = 128) := Lib.hid (secB_length h2)
  have HSB : Hid (∀ b ∈ secB (K.encs [itm N]), b < 256) := Lib.hid (secB_lt h2 (K.encs_lt _))
  have HB1 := Lib.hid hb1
  have HB2 := Lib.hid hb2
  rw [if_neg hbig]
  have t1 : (N : Int) ≤ 93 := by omega
  generalize secB (K.encs [itm N]) = L at *
  have ho6 : Own8 w5 ((w3.alloc (.cells (rowArr N fun _ => 0) 5)).alloc (.cells #[.int .i64 2, .int .i64 0, .string z] 36)).heap.size v5 128 (lst L) := by
    have h := ho5
    unfold OwnL at h
    rw [HSL.out] at h
    exact h
  obtain ⟨g5, c5, rfl, hg5, hr5, hc5, hc5m⟩ := ho6.row (by omega)
  have hgw : w.heap.size ≤ g5 := Nat.le_trans s4 hg5
  have R5 := Lib.hid hr5
  have C5 := Lib.hid hc5m
  obtain ⟨lk, hlke⟩ : ∃ lk, lk = lst L k := ⟨_, rfl⟩
  have HLK := Lib.hid hlke
  obtain ⟨y, hy⟩ : ∃ y, y = lk ^^^ x := ⟨_, rfl⟩
  have hlk : lk < 256 := by rw [hlke]; exact lst_lt HSB.out k
  have hy256 : y < 256 := by rw [hy]; exact Nat.xor_lt_two_pow (n := 8) hlk hx256
  have xr : bits .xor .u8 ((lk : Nat) : Int) (x : Int) = ((y : Nat) : Int) := by rw [hy]; exact xor_u8R _ _ hlk hx256
  have hkn : k < 128 := by omega
  have c1 := R5.out.cell hkn
  rw [← hlke] at c1
  have f1 := R5.out.frozen hkn
  have HY := Lib.hid hy
  obtain ⟨L2, hL2⟩ : ∃ L2, L2 = L.set k y := ⟨_, rfl⟩
  have hlen2 : L2.length = 128 := by rw [hL2, List.length_set, HSL.out]
  have HL2 := Lib.hid hL2
  have HB : Hid (∀ b ∈ L2, b < 256) := Lib.hid fun b hb => by
    rw [hL2] at hb
    rcases List.mem_or_eq_of_mem_set hb with h | h
    · exact HSB.out b h
    · rw [h]; exact hy256
  have R6 : Hid (RowG (w5.setCell ⟨g5, k, none⟩ (.int .u8 ((y : Nat) : Int))) g5 128 (lst L2)) := Lib.hid ((R5.out.set (v := y) hkn).congr fun j hj => by rw [hL2, lst_set L k y j (by rw [HSL.out]; exact hkn)])
  have L6 := Lib.hid (L5.out.setCell (p := ⟨g5, k, none⟩) hgw (.int .u8 ((y : Nat) : Int)))
  have hu := unsector_any (some ⟨g5, 0, none⟩) L2 c5 (g5 + 1) (w5.setCell ⟨g5, k, none⟩ (.int .u8 ((y : Nat) : Int))) (by rw [hlen2]; exact R6.out.rdb (fun j _ => lst_lt HB.out j) (Nat.lt_succ_self g5)) R6.out.lt HB.out (by rw [hlen2]; exact hc5) C5.out (HLD.out.below L6.out hpos)
  rw [hlen2] at hu
  have HU := Lib.hid hu
  have HN2 := Lib.hid hlen2
  have hk := HK.out
  unfold maxLen at hc5m
  clear hse h1 h2 hsl hb1 hb2 ho5 ho6 hr5 hg5 hy hL2 hu hlen2 hbig HSE R5 L5 s4 hlke
  go_wp2_with fail
  clear c1 f1 xr hk
  refine HU.out.mono ?_
  rintro e w7 ⟨hu7, hl7⟩
  have L7 := Lib.hid (L6.out.trans (hl7.mono L6.out.size))
  have R7 := Lib.hid (R6.out.new_ hl7)
  obtain ⟨A7, c7, rfl, r7, lc7, cm7⟩ := hu7
  have Q7 := Lib.hid r7
  have C7 := Lib.hid cm7
  unfold maxLen at cm7
  clear hl7 r7 HU R6 L6
  by_cases hx0 : x = 0
  · have hLL : L2 = L := list_ext_lst (by rw [HN2.out, HSL.out]) fun j hj => by
      rw [HL2.out, lst_set L k y j (by rw [HSL.out]; exact hkn)]
      unfold upd
      by_cases h : j = k
      · rw [if_pos h, HY.out, hx0, Nat.xor_zero, h, HLK.out]
      · rw [if_neg h]
    have h7 := Q7.out
    rw [hLL, HB1.out] at h7 lc7 ⊢
    rw [HB2.out]
    have hxz : ((x : Nat) : Int) = 0 := by omega
    rw [hxz]
    obtain ⟨b, o, hA, _, _, _, q2⟩ := h7 0 (itm N) rfl
    subst hA
    rw [HIT.out] at q2
    simp only [Nat.zero_mul, Nat.add_zero] at q2
    have hzs := HZS.out
    clear hLL h7 hx0 Q7
    go_wp2_with fail
    go_ret
    exact ⟨rfl, L7.out⟩
  · have hxz : ((x : Int) == 0) = false := by simpa using hx0
    have k1 := conv_lst (c := c5) (show RdB w7 (g5 + 1) (some ⟨g5, 0, none⟩) L2.length (lst L2) from by rw [HN2.out]; exact R7.out.rdb (fun j _ => lst_lt HB.out j) (Nat.lt_succ_self g5))
    rw [HN2.out] at k1
    clear hx0
    go_wp2_with fail
    clear k1
    refine (docUnsector_any L2 w7 HB.out (by rw [HN2.out]; omega)).mono ?_
    rintro e w8 ⟨hu8, hl8⟩
    have L8 := Lib.hid (L7.out.trans (hl8.mono L7.out.size))
    obtain ⟨A8, c8, rfl, r8, lc8, cm8⟩ := hu8
    have Q8 := Lib.hid r8
    have C8 := Lib.hid cm8
    have Q78 := Lib.hid (Q7.out.below hl8 (Nat.le_refl _))
    generalize unsE L2 = UE at *
    generalize unsL L2 = U at *
    unfold maxLen at cm8
    clear hl8 r8 Q7
    go_wp2_with fail
    refine (same_any A7 A8 U U c7 c8 w7.heap.size w8.heap.size w8 Q78.out Q8.out lc7 C7.out lc8 C8.out).mono ?_
    rintro e w9 ⟨hs, n9, hw9⟩
    have L9 : Hid (Below w.heap.size w w9) := Lib.hid (by rw [hw9]; exact below_drew2 L8.out n9)
    clear hw9
    rcases hs with ⟨_, rfl⟩ | ⟨h, _⟩
    · go_wp2_with fail
      go_ret
      exact ⟨rfl, L9.out⟩
    · exact absurd rfl h
end packRooms
end Go.Proofs.YtnmieabcaaoofaaDoor
