/-
  The walk of 'IntentEdges': a log's pieces lie where it is said, and nowhere else. Conditions: the sums' table is laid.
-/
import Derived.Test.YtikenhcglbfgpaaDoorItnKnownM
import Derived.Test.YtikenhcglbfgpaaDoorDrawSplitAll
namespace Go.Proofs.YtikenhcglbfgpaaDoor
open Go Go.RowKit refRack
set_option maxRecDepth 100000
set_option linter.unusedVariables false
namespace Itn
open Lab (sec sec_length sec_lst sec_lt)
theorem umodI (a k : Int) (hk : 0 < k) (hk2 : k ≤ 1000000) : ∃ n : Nat, wrap64 ((IntKind.u64.wrap a).tmod k) = (n : Int) ∧ (n : Int) < k := by
  have h0 : 0 ≤ IntKind.u64.wrap a := by rw [IntKind.wrap_u64]; omega
  have h1 := Int.tmod_nonneg k h0
  have h2 := Int.tmod_lt_of_pos (IntKind.u64.wrap a) hk
  refine ⟨((IntKind.u64.wrap a).tmod k).toNat, ?_, by omega⟩
  generalize (IntKind.u64.wrap a).tmod k = y at *
  unfold wrap64
  omega
theorem txt_injI {L M : List Nat} (hL : ∀ x ∈ L, x < 256) (hM : ∀ x ∈ M, x < 256) (h : K.txt L = K.txt M) : L = M := by rw [← K.sb_txt hL, ← K.sb_txt hM, h]
theorem eq_strI (a b : ByteArray) (w : World) : (binOp .eql 9 (.string a) (.string b)).run Tryd.prog w = .ok (.bool (a.toList == b.toList)) w := by simp [binOp, Op.stringOp]
def zs : List Nat := List.replicate 128 0
theorem zs_lt : ∀ x ∈ zs, x < 256 := fun x hx => by rw [List.eq_of_mem_replicate hx]; omega
theorem zs_lst (j : Nat) : lst zs j = 0 := by
  unfold lst zs
  rw [List.getD_eq_getElem?_getD, List.getElem?_replicate]
  split <;> rfl
theorem eq_no {L : List Nat} (hL : ∀ x ∈ L, x < 256) (h : lst L 0 ≠ 0) (w : World) : (binOp .eql 9 (.string (K.txt L)) (.string (K.txt zs))).run Tryd.prog w = .ok (.bool false) w := by
  rw [eq_strI]
  have : (K.txt L).toList ≠ (K.txt zs).toList := fun e => h (by rw [txt_injI hL zs_lt (bytes_eq e)]; exact zs_lst 0)
  simp [this]
theorem eq_yes {L : List Nat} (h : L = zs) (w : World) : (binOp .eql 9 (.string (K.txt L)) (.string (K.txt zs))).run Tryd.prog w = .ok (.bool true) w := by
  rw [eq_strI, h]
  simp
theorem conv128 {w : World} {B c : Nat} {A : Option Addr} {L : List Nat} (h : RdB w B A 128 (lst L)) (hl : L.length = 128) : (convert 38 9 (.slice A 128 c)).run Tryd.prog w = .ok (.string (K.txt L)) w := by
  rw [← hl] at h ⊢
  exact conv_lst h
/-- what a read answers of a drive that is well -/
theorem read_well {B : Nat} (w : World) (r : Nat) (s : RS) (d a : Nat) (h : RackAt B w r s) (hd : d < s.nd) (ha : a < s.ns) (ho : s.off = false) (hg : s.gone d = false) :
    Calls Tryd.prog 15 #[.pointer (some ⟨r, 0, none⟩), .int .i64 (d : Int), .int .i64 (a : Int)] w fun e w' => (∃ A c, e = .returned (.tuple #[.slice A 128 c, .int .i64 0]) ∧ RdB w' w'.heap.size A 128 (lst (sec s d a))) ∧ RackAt B w' r s ∧ Keep B w w' := by
  refine (read_s w r s d a h hd ha ho).mono fun e w' ⟨⟨A, c, h1, h2, _, _⟩, h3, h4⟩ => ⟨⟨A, c, ?_, ?_⟩, h3, h4⟩
  · rw [h1]
    unfold secG secY
    rw [if_neg (by rw [hg]; decide), if_neg (by rw [hg]; decide), sec_length]
  · unfold secG at h2
    rw [if_neg (by rw [hg]; decide), sec_length] at h2
    exact h2
end Itn
namespace intentEdges
open Itn Lab
/-- the rack of the law behind the append -/
structure Edge (s : RS) (q n : Nat) : Prop where
  ok : s.ok
  nd : s.nd = 5
  ns : s.ns = 60
  calm : s.calm
  gone : ∀ d, s.gone d = false
  in_ : ∀ d a, d < 5 → q ≤ a → a < q + n → s.holds d a 0 ≠ 0
  out : ∀ d a, ¬ (q ≤ a ∧ a < q + n) → s.holds d a = zeros
theorem edge_of (q : Nat) (T : ByteArray) (hq : q < 50) (hok : (putS (RS.new 5 60) q 2 0 (cutL T)).ok) (hn : needN T.size ≤ 10) : Edge (putS (RS.new 5 60) q 2 0 (cutL T)) q (needN T.size) := by
  obtain ⟨hl, _⟩ := putS_like q 2 (cutL T) (RS.new 5 60) 0
  have hlen := cutL_len T
  refine ⟨hok, hl.nd, hl.ns, hl.calm ⟨rfl, rfl⟩, fun d => by rw [hl.gone]; rfl, fun d a hd h1 h2 => ?_, fun d a h => ?_⟩
  · obtain ⟨p, hp⟩ : ∃ p, (cutL T)[a - q]? = some p := ⟨_, List.getElem?_eq_getElem (by omega)⟩
    have h := putS_at q 2 d (cutL T) (RS.new 5 60) 0 (a - q) p hp hd rfl
    rw [show q + (0 + (a - q)) = a by omega] at h
    rw [h]
    have := (pcL_head (b := ((2 : Nat) : Int)) (k := ((0 + (a - q) : Nat) : Int)) (p := p) ⟨⟨by omega, by omega⟩, ⟨by omega, by omega⟩, cutL_fit T p (List.mem_of_getElem? hp)⟩).1
    omega
  · rw [putS_far q 2 d a (cutL T) (RS.new 5 60) 0 (by omega)]
    rfl
theorem Edge.eql {s : RS} {q n : Nat} (h : Edge s q n) {d a : Nat} (hd : d < 5) : ∃ bl : Bool, (bl = !decide (q ≤ a ∧ a < q + n)) ∧ ∀ w, (binOp .eql 9 (.string (K.txt (sec s d a))) (.string (K.txt zs))).run Tryd.prog w = .ok (.bool bl) w := by
  by_cases hc : q ≤ a ∧ a < q + n
  · refine ⟨false, by simp [hc], eq_no (sec_lt h.ok d a) ?_⟩
    rw [sec_lst s d a 0 (by omega)]
    exact h.in_ d a hd hc.1 hc.2
  · refine ⟨true, by simp [hc], eq_yes ?_⟩
    refine list_ext_lst (by rw [sec_length]; rfl) fun j hj => ?_
    rw [sec_length] at hj
    rw [sec_lst s d a j hj, h.out d a hc, zs_lst]
    rfl
set_option maxHeartbeats 12800000 in
theorem walk (a0 : Int) (t : ByteArray) (w : World) {p0 p1 : Prop} (_ : p0) (_ : p1) (hl : Laid w) :
    Calls Tryd.prog 4 #[.int .i64 a0, .string t] w fun e w' => e = .returned (.bool true) ∧ Below w.heap.size w w' := by
  have HLD := Lib.hid hl
  have hpos := hl.pos
  obtain ⟨q, hq0, hq⟩ := umodI a0 50 (by omega) (by omega)
  have hq50 : q < 50 := by omega
  clear hl hq
  go_enter Tryd.func4, Tryd.ntmps4
  go_wp2_with fail
  refine (known_at w HLD.out).mono ?_
  rintro e w0 ⟨rfl, b0⟩
  have B0 := Lib.hid b0
  have hpos0 : 0 < w0.heap.size := by have := b0.size; omega
  clear b0
  go_wp2_with fail
  refine (new_any w0 5 60 (by omega) (by omega) (by omega) (by omega)).mono ?_
  rintro e w1 ⟨⟨r, rfl, h1⟩, k1⟩
  have H1 := Lib.hid h1
  have K1 := Lib.hid k1
  have LD1 := Lib.hid ((HLD.out.below B0.out hpos).below k1.below hpos0)
  clear h1 k1
  go_wp2_with fail
  have HO := Lib.hid (open_at w1 r _ q 10 2 H1.out LD1.out hpos0 rfl (by show q + 10 ≤ 60; omega) (by omega) (by omega) (by omega) (by omega))
  rw [(LogR.new 5 60 q 10 2 (by omega) (by omega) (by omega)).col tells_nil] at HO
  refine HO.out.mono ?_
  rintro e w2 ⟨l, v, rfl, hll, hv, h2, x2, k2⟩
  have H2 := Lib.hid h2
  have K2 := Lib.hid (K1.out.trans k2)
  have X2 : Hid (Blk w2 l 53 (logA r q 10 2 0)) := Lib.hid x2
  have HLL : Hid (w0.heap.size ≤ l) := Lib.hid (by have := K1.out.below.size; omega)
  have LD2 := Lib.hid (LD1.out.below k2.below hpos0)
  clear hv h2 x2 k2 hll HO H1 K1 LD1
  by_cases hts : t.size ≤ 560
  · have i1 : ((t.size : Int) ≤ 560) := by omega
    go_upto_region 7 with (fail)
    clear i1
    obtain ⟨T, hT⟩ : ∃ T, T = t := ⟨_, rfl⟩
    rw [← hT] at hts ⊢
    clear hT
    have hn10 : needN T.size ≤ 10 := by unfold needN; omega
    have HTS := Lib.hid hts
    clear hts
    go_wp2_with fail
    have HA := Lib.hid (app_ok w2 r l _ q 10 2 0 T H2.out X2.out LD2.out hpos0 HLL.out ⟨rfl, rfl⟩ (by rw [cntW_all (fun _ => rfl)]; decide) (by show q + 10 ≤ 60; omega) (by omega) (by have := HTS.out; omega) (by omega) (by omega) (by show 0 + 5 * needN T.size ≤ 1000000; omega))
    refine HA.out.mono ?_
    rintro e w3 ⟨rfl, h3, x3, k3⟩
    obtain ⟨S, hS⟩ : ∃ S, S = putS (RS.new 5 60) q 2 0 (cutL T) := ⟨_, rfl⟩
    have hE := edge_of q T hq50 h3.1 hn10
    rw [← hS] at h3 hE
    obtain ⟨n, hn⟩ : ∃ n, n = needN T.size := ⟨_, rfl⟩
    rw [← hn] at hE hn10
    have HNN := Lib.hid hn
    have HE := Lib.hid hE
    have H3 := Lib.hid h3
    have HB3 : Hid (Below w0.heap.size w0 w3) := Lib.hid (K2.out.below.trans k3.below)
    clear hS hE hn h3 x3 k3 HA H2 K2 X2 LD2 HLL
    go_wp2_with fail
    refine (need_at T w3 (by have := HTS.out; omega)).mono ?_
    rintro e w' ⟨rfl, hw⟩
    replace hw := hw.symm
    subst hw
    rw [← HNN.out]
    go_wp2_with fail
    go_loopw [11] (fun y wr => ∃ d : Nat, d ≤ 5 ∧ y = .int .i64 (d : Int) ∧ Hid (RackAt w0.heap.size wr r S) ∧ Hid (Below w0.heap.size w0 wr)) (fun y _ => 5 - (intOf y).toNat)
    case atStart => exact ⟨0, by omega, rfl, H3, HB3⟩
    case round =>
      clear H3 HB3
      obtain ⟨d, hd, rfl, RR, RB⟩ := hrel
      by_cases hlt : d < 5
      · have i1 : (d : Int) < 5 := by omega
        go_wp2_with fail
        go_loopw [12] (fun y wr => ∃ a : Nat, a ≤ 60 ∧ y = .int .i64 (a : Int) ∧ Hid (RackAt w0.heap.size wr r S) ∧ Hid (Below w0.heap.size w0 wr)) (fun y _ => 60 - (intOf y).toNat)
        case atStart => exact ⟨0, by omega, rfl, RR, RB⟩
        case round =>
          clear RR RB
          obtain ⟨a, ha, rfl, RR, RB⟩ := hrel
          by_cases hlta : a < 60
          · have i2 : (a : Int) < 60 := by omega
            have HRW := Lib.hid (read_well _ r S d a RR.out (by rw [HE.out.nd]; exact hlt) (by rw [HE.out.ns]; exact hlta) HE.out.calm.1 (HE.out.gone d))
            obtain ⟨bl, hbl, heq⟩ := HE.out.eql (a := a) hlt
            have HBL := Lib.hid hbl
            have HEQ := Lib.hid heq
            clear hbl heq
            go_wp2_with fail
            refine HRW.out.mono ?_
            rintro e w3 ⟨⟨A3, c3, rfl, hr3⟩, h3, k3⟩
            have HS0 : Hid (RdB w3.drew w3.heap.size A3 128 (lst (sec S d a))) := Lib.hid hr3
            have R3 := Lib.hid h3
            have B3 := Lib.hid (RB.out.trans k3.below)
            have HLS : Hid (sec_length S d a = sec_length S d a) := Lib.hid rfl
            clear hr3 h3 k3 RR RB HRW
            go_upto_region 17 with (fail)
            refine region_anyZ (fun W => RdB W w3.heap.size A3 128 (lst (sec S d a))) 6 (by kernel_rfl) ?_
            refine takeG 0 (.move (.tmp 13)) (some 67) none (.slice A3 128 c3) (by kernel_rfl) (by kernel_rfl) (by kernel_rfl) (fun _ _ _ h => h) (fun o' wq e hS => exec_move wq e (by kernel_rfl)) HS0.out ?_
            refine takeG 1 (.convert 38 9 (.tmp 67)) (some 68) none (.string (K.txt (sec S d a))) (by kernel_rfl) (by kernel_rfl) (by kernel_rfl) (fun _ _ _ h => h) (fun o' wq e hS => exec_conv (u := .slice A3 128 c3) wq e (by kernel_rfl) (conv128 hS (sec_length S d a))) HS0.out ?_
            refine loneG 2 (.makeSlice 38 (.const (.int .i64 128)) (.const (.int .i64 128))) (some 69) none (by kernel_rfl) (by kernel_rfl) (by kernel_rfl) ?_
            intro o' ho hod
            refine wp_val (exec_make (u1 := .int .i64 128) (u2 := .int .i64 128) ho (by kernel_rfl) (by kernel_rfl) (make_long 128 (by omega) _ _ rfl)) ?_
            rw [hod]
            clear hod ho
            have HS1 : Hid (RdB (w3.drew.alloc (.cells (rowArr 128 fun _ => 0) 5)) w3.heap.size A3 128 (lst (sec S d a))) := Lib.hid (HS0.out.below ((Below.refl w3.heap.size w3.drew).alloc (Nat.le_refl _) (.cells (rowArr 128 fun _ => 0) 5)) (Nat.le_refl _))
            have BZ := Lib.hid (Blk.new w3.drew 5 (rowArr 128 fun _ => 0))
            refine ⟨fun _ => HS1.out, ?_⟩
            refine loneG 3 (.convert 38 9 (.tmp 69)) (some 70) none (by kernel_rfl) (by kernel_rfl) (by kernel_rfl) ?_
            intro o' ho hod
            refine wp_val (exec_conv (u := .slice (some ⟨w3.drew.heap.size, 0, none⟩) 128 128) _ ho (by kernel_rfl) (conv_zerosD BZ.out)) ?_
            rw [hod]
            clear hod ho
            refine ⟨fun _ => HS1.out, ?_⟩
            refine takeG 4 (.binOp .eql 9 (.tmp 68) (.tmp 70) 9) (some 71) none (.bool bl) (by kernel_rfl) (by kernel_rfl) (by kernel_rfl) (fun _ _ _ h => h) (fun o' wq e hS => exec_bin (u1 := .string (K.txt (sec S d a))) (u2 := .string (K.txt zs)) wq e (by kernel_rfl) (by kernel_rfl) (eqG_str ..) (HEQ.out _)) HS1.out ?_
            refine lastS 5 (.assign (.tmp 71)) (some 15) (.bool bl) (by kernel_rfl) (by kernel_rfl) (by kernel_rfl) HS1.out (fun o' e => exec_assign _ e (by kernel_rfl)) ?_
            simp only [put_some, put_none, List.setIfInBounds_toArray, List.set_cons_succ, List.set_cons_zero]
            have R4 : Hid (RackAt w0.heap.size (w3.drew.alloc (.cells (rowArr 128 fun _ => 0) 5)) r S) := Lib.hid (R3.out.drew.alloc _)
            have B4 : Hid (Below w0.heap.size w0 (w3.drew.alloc (.cells (rowArr 128 fun _ => 0) 5))) := Lib.hid (B3.out.drew.alloc B3.out.size _)
            clear HS0 HS1 BZ HEQ R3 B3 HLS
            generalize w3.drew.alloc (.cells (rowArr 128 fun _ => 0) 5) = w4 at *
            have hbl := HBL.out
            clear HBL
            by_cases hc1 : q ≤ a
            · by_cases hc2 : a < q + n
              · have j1 : (q : Int) ≤ (a : Int) := by omega
                have j2 : (a : Int) < (q : Int) + (n : Int) := by omega
                obtain rfl : bl = false := by rw [hbl]; simp; omega
                clear hbl
                go_wp2_with fail
                go_roundw
                case rel => exact ⟨a + 1, by omega, by go_num, R4, B4⟩
                case measure => simp [intOf]; omega
              · have j1 : (q : Int) ≤ (a : Int) := by omega
                have j2 : ¬ ((a : Int) < (q : Int) + (n : Int)) := by omega
                obtain rfl : bl = true := by rw [hbl]; simp; omega
                clear hbl
                go_wp2_with fail
                go_roundw
                case rel => exact ⟨a + 1, by omega, by go_num, R4, B4⟩
                case measure => simp [intOf]; omega
            · have j1 : ¬ ((q : Int) ≤ (a : Int)) := by omega
              obtain rfl : bl = true := by rw [hbl]; simp; omega
              clear hbl
              go_wp2_with fail
              go_roundw
              case rel => exact ⟨a + 1, by omega, by go_num, R4, B4⟩
              case measure => simp [intOf]; omega
          · have i2 : ¬ ((a : Int) < 60) := by omega
            go_wp2_with fail
            go_roundw
            case rel => exact ⟨d + 1, by omega, by go_num, RR, RB⟩
            case measure => simp [intOf]; omega
      · have i1 : ¬ ((d : Int) < 5) := by omega
        go_wp2_with fail
        go_ret
        exact ⟨rfl, B0.out.trans (RB.out.mono B0.out.size)⟩
  · have i1 : ¬ ((t.size : Int) ≤ 560) := by omega
    go_upto_region 7 with (fail)
    clear i1
    have hts2 : (t.extract 0 560).size ≤ 560 := by rw [ext_size _ _ _ (by omega)]; omega
    clear hts
    have hts := hts2
    obtain ⟨T, hT⟩ : ∃ T, T = t.extract 0 560 := ⟨_, rfl⟩
    have hT2 : T = t.extract 0 (Int.toNat 560) := hT
    rw [← hT] at hts
    try rw [← hT]
    try rw [← hT2]
    clear hT hT2 hts2
    have hn10 : needN T.size ≤ 10 := by unfold needN; omega
    have HTS := Lib.hid hts
    clear hts
    go_wp2_with fail
    have HA := Lib.hid (app_ok w2 r l _ q 10 2 0 T H2.out X2.out LD2.out hpos0 HLL.out ⟨rfl, rfl⟩ (by rw [cntW_all (fun _ => rfl)]; decide) (by show q + 10 ≤ 60; omega) (by omega) (by have := HTS.out; omega) (by omega) (by omega) (by show 0 + 5 * needN T.size ≤ 1000000; omega))
    refine HA.out.mono ?_
    rintro e w3 ⟨rfl, h3, x3, k3⟩
    obtain ⟨S, hS⟩ : ∃ S, S = putS (RS.new 5 60) q 2 0 (cutL T) := ⟨_, rfl⟩
    have hE := edge_of q T hq50 h3.1 hn10
    rw [← hS] at h3 hE
    obtain ⟨n, hn⟩ : ∃ n, n = needN T.size := ⟨_, rfl⟩
    rw [← hn] at hE hn10
    have HNN := Lib.hid hn
    have HE := Lib.hid hE
    have H3 := Lib.hid h3
    have HB3 : Hid (Below w0.heap.size w0 w3) := Lib.hid (K2.out.below.trans k3.below)
    clear hS hE hn h3 x3 k3 HA H2 K2 X2 LD2 HLL
    go_wp2_with fail
    refine (need_at T w3 (by have := HTS.out; omega)).mono ?_
    rintro e w' ⟨rfl, hw⟩
    replace hw := hw.symm
    subst hw
    rw [← HNN.out]
    go_wp2_with fail
    go_loopw [11] (fun y wr => ∃ d : Nat, d ≤ 5 ∧ y = .int .i64 (d : Int) ∧ Hid (RackAt w0.heap.size wr r S) ∧ Hid (Below w0.heap.size w0 wr)) (fun y _ => 5 - (intOf y).toNat)
    case atStart => exact ⟨0, by omega, rfl, H3, HB3⟩
    case round =>
      clear H3 HB3
      obtain ⟨d, hd, rfl, RR, RB⟩ := hrel
      by_cases hlt : d < 5
      · have i1 : (d : Int) < 5 := by omega
        go_wp2_with fail
        go_loopw [12] (fun y wr => ∃ a : Nat, a ≤ 60 ∧ y = .int .i64 (a : Int) ∧ Hid (RackAt w0.heap.size wr r S) ∧ Hid (Below w0.heap.size w0 wr)) (fun y _ => 60 - (intOf y).toNat)
        case atStart => exact ⟨0, by omega, rfl, RR, RB⟩
        case round =>
          clear RR RB
          obtain ⟨a, ha, rfl, RR, RB⟩ := hrel
          by_cases hlta : a < 60
          · have i2 : (a : Int) < 60 := by omega
            have HRW := Lib.hid (read_well _ r S d a RR.out (by rw [HE.out.nd]; exact hlt) (by rw [HE.out.ns]; exact hlta) HE.out.calm.1 (HE.out.gone d))
            obtain ⟨bl, hbl, heq⟩ := HE.out.eql (a := a) hlt
            have HBL := Lib.hid hbl
            have HEQ := Lib.hid heq
            clear hbl heq
            go_wp2_with fail
            refine HRW.out.mono ?_
            rintro e w3 ⟨⟨A3, c3, rfl, hr3⟩, h3, k3⟩
            have HS0 : Hid (RdB w3.drew w3.heap.size A3 128 (lst (sec S d a))) := Lib.hid hr3
            have R3 := Lib.hid h3
            have B3 := Lib.hid (RB.out.trans k3.below)
            have HLS : Hid (sec_length S d a = sec_length S d a) := Lib.hid rfl
            clear hr3 h3 k3 RR RB HRW
            go_upto_region 17 with (fail)
            refine region_anyZ (fun W => RdB W w3.heap.size A3 128 (lst (sec S d a))) 6 (by kernel_rfl) ?_
            refine takeG 0 (.move (.tmp 13)) (some 67) none (.slice A3 128 c3) (by kernel_rfl) (by kernel_rfl) (by kernel_rfl) (fun _ _ _ h => h) (fun o' wq e hS => exec_move wq e (by kernel_rfl)) HS0.out ?_
            refine takeG 1 (.convert 38 9 (.tmp 67)) (some 68) none (.string (K.txt (sec S d a))) (by kernel_rfl) (by kernel_rfl) (by kernel_rfl) (fun _ _ _ h => h) (fun o' wq e hS => exec_conv (u := .slice A3 128 c3) wq e (by kernel_rfl) (conv128 hS (sec_length S d a))) HS0.out ?_
            refine loneG 2 (.makeSlice 38 (.const (.int .i64 128)) (.const (.int .i64 128))) (some 69) none (by kernel_rfl) (by kernel_rfl) (by kernel_rfl) ?_
            intro o' ho hod
            refine wp_val (exec_make (u1 := .int .i64 128) (u2 := .int .i64 128) ho (by kernel_rfl) (by kernel_rfl) (make_long 128 (by omega) _ _ rfl)) ?_
            rw [hod]
            clear hod ho
            have HS1 : Hid (RdB (w3.drew.alloc (.cells (rowArr 128 fun _ => 0) 5)) w3.heap.size A3 128 (lst (sec S d a))) := Lib.hid (HS0.out.below ((Below.refl w3.heap.size w3.drew).alloc (Nat.le_refl _) (.cells (rowArr 128 fun _ => 0) 5)) (Nat.le_refl _))
            have BZ := Lib.hid (Blk.new w3.drew 5 (rowArr 128 fun _ => 0))
            refine ⟨fun _ => HS1.out, ?_⟩
            refine loneG 3 (.convert 38 9 (.tmp 69)) (some 70) none (by kernel_rfl) (by kernel_rfl) (by kernel_rfl) ?_
            intro o' ho hod
            refine wp_val (exec_conv (u := .slice (some ⟨w3.drew.heap.size, 0, none⟩) 128 128) _ ho (by kernel_rfl) (conv_zerosD BZ.out)) ?_
            rw [hod]
            clear hod ho
            refine ⟨fun _ => HS1.out, ?_⟩
            refine takeG 4 (.binOp .eql 9 (.tmp 68) (.tmp 70) 9) (some 71) none (.bool bl) (by kernel_rfl) (by kernel_rfl) (by kernel_rfl) (fun _ _ _ h => h) (fun o' wq e hS => exec_bin (u1 := .string (K.txt (sec S d a))) (u2 := .string (K.txt zs)) wq e (by kernel_rfl) (by kernel_rfl) (eqG_str ..) (HEQ.out _)) HS1.out ?_
            refine lastS 5 (.assign (.tmp 71)) (some 15) (.bool bl) (by kernel_rfl) (by kernel_rfl) (by kernel_rfl) HS1.out (fun o' e => exec_assign _ e (by kernel_rfl)) ?_
            simp only [put_some, put_none, List.setIfInBounds_toArray, List.set_cons_succ, List.set_cons_zero]
            have R4 : Hid (RackAt w0.heap.size (w3.drew.alloc (.cells (rowArr 128 fun _ => 0) 5)) r S) := Lib.hid (R3.out.drew.alloc _)
            have B4 : Hid (Below w0.heap.size w0 (w3.drew.alloc (.cells (rowArr 128 fun _ => 0) 5))) := Lib.hid (B3.out.drew.alloc B3.out.size _)
            clear HS0 HS1 BZ HEQ R3 B3 HLS
            generalize w3.drew.alloc (.cells (rowArr 128 fun _ => 0) 5) = w4 at *
            have hbl := HBL.out
            clear HBL
            by_cases hc1 : q ≤ a
            · by_cases hc2 : a < q + n
              · have j1 : (q : Int) ≤ (a : Int) := by omega
                have j2 : (a : Int) < (q : Int) + (n : Int) := by omega
                obtain rfl : bl = false := by rw [hbl]; simp; omega
                clear hbl
                go_wp2_with fail
                go_roundw
                case rel => exact ⟨a + 1, by omega, by go_num, R4, B4⟩
                case measure => simp [intOf]; omega
              · have j1 : (q : Int) ≤ (a : Int) := by omega
                have j2 : ¬ ((a : Int) < (q : Int) + (n : Int)) := by omega
                obtain rfl : bl = true := by rw [hbl]; simp; omega
                clear hbl
                go_wp2_with fail
                go_roundw
                case rel => exact ⟨a + 1, by omega, by go_num, R4, B4⟩
                case measure => simp [intOf]; omega
            · have j1 : ¬ ((q : Int) ≤ (a : Int)) := by omega
              obtain rfl : bl = true := by rw [hbl]; simp; omega
              clear hbl
              go_wp2_with fail
              go_roundw
              case rel => exact ⟨a + 1, by omega, by go_num, R4, B4⟩
              case measure => simp [intOf]; omega
          · have i2 : ¬ ((a : Int) < 60) := by omega
            go_wp2_with fail
            go_roundw
            case rel => exact ⟨d + 1, by omega, by go_num, RR, RB⟩
            case measure => simp [intOf]; omega
      · have i1 : ¬ ((d : Int) < 5) := by omega
        go_wp2_with fail
        go_ret
        exact ⟨rfl, B0.out.trans (RB.out.mono B0.out.size)⟩
end intentEdges
end Go.Proofs.YtikenhcglbfgpaaDoor
