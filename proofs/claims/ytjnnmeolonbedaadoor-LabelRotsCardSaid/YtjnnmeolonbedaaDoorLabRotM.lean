/-
  The sums of a record's bytes with one byte changed: none is the record's own sum, for the records 1 to 9: reckoned out, all of a record's side by side. No conditions.
-/
import Derived.Test.YtjnnmeolonbedaaDoorVecMathM
import Derived.Test.YtjnnmeolonbedaaDoorPackPtrM
import Derived.Test.YtjnnmeolonbedaaDoorLawArgsM
import Derived.Test.YtjnnmeolonbedaaDoorRackRot
namespace Go.Proofs.YtjnnmeolonbedaaDoor.V
set_option maxRecDepth 100000
set_option linter.unusedVariables false
/-- the bytes of a record, t its transaction -/
def pay (t : Nat) : List Nat := [1, 154, 1, 1, 2 * t, 2, 40, 1, 2 * t, 1, 2 * (t + 1), 1, 2 * t, 2, 32] ++ (List.range 32).map fun j => t + j
theorem pay_length (t : Nat) : (pay t).length = 47 := by simp [pay]
/-- with what the sum lays behind them -/
def blk (P : List Nat) : List Nat := P ++ [128, 0, 0, 0, 0, 0, 0, 0, 0, 0, 0, 0, 0, 0, 0, 1, 120]
/-- byte p changed by m -/
def ch1 (B : List Nat) (p m j : Nat) : Nat := if j = p then lst B j ^^^ m else lst B j
theorem ch1_lt {B : List Nat} (hB : ∀ j, lst B j < 256) {p m : Nat} (hm : m < 256) (j : Nat) : ch1 B p m j < 256 := by
  unfold ch1
  split
  · exact Nat.xor_lt_two_pow (n := 8) (hB j) hm
  · exact hB j
def O255 : Nat := pk (fun _ => 1) 255
def ONE : Nat := pkB (fun _ => O255) 47
def xk (B : List Nat) (k : Nat) : Nat := pkB (fun p => if p / 4 = k then pk (fun m => M.num (ch1 B p (m + 1)) (4 * k)) 255 else M.num (lst B) (4 * k) * O255) 47
def check (B : List Nat) : Bool := M.force ONE fun O => M.force (4294967295 * O) fun E => M.force (first E O (xk B)) fun X => M.force (M.mixF M.init (lst B)).a fun c =>
  Nat.ble (c + 1) 4294967296 && Nat.beq (((X ^^^ (c * O)) + 4294967295 * O) &&& (4294967296 * O)) (4294967296 * O)
theorem one_all : R (255 * 47) 2 ONE fun _ => 1 := ⟨pkB_eq (fun _ => 1) (fun _ => O255) 47 (fun _ _ => rfl), fun _ _ => by decide⟩
theorem o255 : R 255 2 O255 fun _ => 1 := ⟨rfl, fun _ _ => by decide⟩
theorem xk_all {B : List Nat} (hB : ∀ j, lst B j < 256) (k : Nat) : R (255 * 47) W (xk B k) fun i => M.num (ch1 B (i / 255) (i % 255 + 1)) (4 * k) := by
  refine ⟨pkB_eq (fun i => M.num (ch1 B (i / 255) (i % 255 + 1)) (4 * k)) _ 47 fun p hp => ?_, fun i hi => M.num_lt (ch1_lt hB (by omega)) _⟩
  by_cases e : p / 4 = k
  · rw [if_pos e]
    refine pk_congr fun m hm => ?_
    rw [show (255 * p + m) / 255 = p by omega, show (255 * p + m) % 255 = m by omega]
  · rw [if_neg e, (o255.all (M.num (lst B) (4 * k)) W (M.num_lt hB _)).eq]
    refine pk_congr fun m hm => ?_
    rw [show (255 * p + m) / 255 = p by omega]
    unfold M.num ch1
    rw [if_neg (by omega), if_neg (by omega), if_neg (by omega), if_neg (by omega)]
theorem check_none {B : List Nat} (hB : ∀ j, lst B j < 256) (h : check B = true) {p m : Nat} (hp : p < 47) (hm : m < 255) : (M.mixB M.init (ch1 B p (m + 1))).a ≠ (M.mixB M.init (lst B)).a := by
  unfold check at h
  rw [M.force_eq, M.force_eq, M.force_eq, M.force_eq, Bool.and_eq_true, M.mixF_eq] at h
  have hE := one_all.all 4294967295 W (by decide)
  have h1 := R.first hE one_all (x := xk B) (X := fun i => ch1 B (i / 255) (i % 255 + 1)) fun t _ => xk_all hB t
  have h2 := R.none one_all h1 (M.mixB M.init (lst B)).a (Nat.le_of_ble_eq_true h.1) (Nat.eq_of_beq_eq_true h.2) (255 * p + m) (by omega)
  rw [show (255 * p + m) / 255 = p by omega, show (255 * p + m) % 255 = m by omega] at h2
  exact h2
theorem check_1 : check (blk (pay 1)) = true := by decide +kernel
theorem check_2 : check (blk (pay 2)) = true := by decide +kernel
theorem check_3 : check (blk (pay 3)) = true := by decide +kernel
theorem check_4 : check (blk (pay 4)) = true := by decide +kernel
theorem check_5 : check (blk (pay 5)) = true := by decide +kernel
theorem check_6 : check (blk (pay 6)) = true := by decide +kernel
theorem check_7 : check (blk (pay 7)) = true := by decide +kernel
theorem check_8 : check (blk (pay 8)) = true := by decide +kernel
theorem check_9 : check (blk (pay 9)) = true := by decide +kernel
theorem check_all {t : Nat} (h1 : 1 ≤ t) (h2 : t ≤ 9) : check (blk (pay t)) = true := by
  obtain rfl | rfl | rfl | rfl | rfl | rfl | rfl | rfl | rfl : t = 1 ∨ t = 2 ∨ t = 3 ∨ t = 4 ∨ t = 5 ∨ t = 6 ∨ t = 7 ∨ t = 8 ∨ t = 9 := by omega
  · exact check_1
  · exact check_2
  · exact check_3
  · exact check_4
  · exact check_5
  · exact check_6
  · exact check_7
  · exact check_8
  · exact check_9
theorem lst_lt {L : List Nat} (h : ∀ b ∈ L, b < 256) (j : Nat) : lst L j < 256 := by
  by_cases hj : j < L.length
  · exact h _ (List.mem_of_getElem? (lst_in hj))
  · unfold lst
    rw [List.getD_eq_getElem?_getD, List.getElem?_eq_none (by omega)]
    decide
theorem pay_lt {t : Nat} (h : t ≤ 9) : ∀ b ∈ pay t, b < 256 := fun b hb => by
  unfold pay at hb
  rcases List.mem_append.1 hb with h1 | h1
  · simp only [List.mem_cons, List.not_mem_nil, or_false] at h1
    omega
  · obtain ⟨j, hj, rfl⟩ := List.mem_map.1 h1
    have := List.mem_range.1 hj
    omega
theorem blk_lt {P : List Nat} (h : ∀ b ∈ P, b < 256) : ∀ b ∈ blk P, b < 256 := fun b hb => by
  unfold blk at hb
  rcases List.mem_append.1 hb with h1 | h1
  · exact h b h1
  · simp only [List.mem_cons, List.not_mem_nil, or_false] at h1
    omega
theorem rest_blk {P : List Nat} (hP : P.length = 47) {Y : Nat → Nat} {p m : Nat} (hp : p < 47) (h : ∀ j, j < 47 → Y j = ch1 P p m j) (j : Nat) (hj : j < 64) : M.rest 47 Y j = ch1 (blk P) p m j := by
  have hb : lst (blk P) j = if j < 47 then lst P j else lst [128, 0, 0, 0, 0, 0, 0, 0, 0, 0, 0, 0, 0, 0, 0, 1, 120] (j - 47) := by
    unfold blk
    rw [lst_app, hP]
  unfold ch1
  rw [hb]
  by_cases h47 : j < 47
  · have e : M.rest 47 Y j = Y j := by
      unfold M.rest M.restTo
      rw [if_pos h47, show 47 / 64 * 64 + j = j by omega]
    rw [e, h j h47, if_pos h47]
    rfl
  · rw [if_neg h47, if_neg (by omega)]
    obtain ⟨k, rfl⟩ : ∃ k, j = 47 + k := ⟨j - 47, by omega⟩
    rw [show 47 + k - 47 = k by omega]
    have hk : k < 17 := by omega
    clear h hb hj h47
    match k, hk with
    | 0, _ => rfl
    | 1, _ => rfl
    | 2, _ => rfl
    | 3, _ => rfl
    | 4, _ => rfl
    | 5, _ => rfl
    | 6, _ => rfl
    | 7, _ => rfl
    | 8, _ => rfl
    | 9, _ => rfl
    | 10, _ => rfl
    | 11, _ => rfl
    | 12, _ => rfl
    | 13, _ => rfl
    | 14, _ => rfl
    | 15, _ => rfl
    | 16, _ => rfl
    | k + 17, h => exact absurd h (by omega)
theorem sumS_one (Y : Nat → Nat) : M.sumS 47 Y = M.mixB M.init (M.rest 47 Y) := by
  unfold M.sumS
  show M.mixB M.init (fun j => M.rest 47 Y (64 * 0 + j)) = _
  exact M.mixB_congr _ fun j _ => by rw [Nat.mul_zero, Nat.zero_add]
theorem a_of_bytes {x y : Nat} (hx : x < 4294967296) (hy : y < 4294967296) (h0 : (x >>> 24) % 256 = (y >>> 24) % 256) (h1 : (x >>> 16) % 256 = (y >>> 16) % 256) (h2 : (x >>> 8) % 256 = (y >>> 8) % 256) (h3 : (x >>> 0) % 256 = (y >>> 0) % 256) : x = y := by
  simp only [Nat.shiftRight_eq_div_pow] at h0 h1 h2 h3
  omega
theorem out_0 (s : M.S8) : M.outB s 0 = (s.a >>> 24) % 256 := rfl
theorem out_1 (s : M.S8) : M.outB s 1 = (s.a >>> 16) % 256 := rfl
theorem out_2 (s : M.S8) : M.outB s 2 = (s.a >>> 8) % 256 := rfl
theorem out_3 (s : M.S8) : M.outB s 3 = (s.a >>> 0) % 256 := rfl
theorem a_of_out {s u : M.S8} (hs : s.ok) (hu : u.ok) (h : ∀ j, j < 32 → M.outB s j = M.outB u j) : s.a = u.a := by
  have h0 := h 0 (by omega)
  have h1 := h 1 (by omega)
  have h2 := h 2 (by omega)
  have h3 := h 3 (by omega)
  rw [out_0, out_0] at h0
  rw [out_1, out_1] at h1
  rw [out_2, out_2] at h2
  rw [out_3, out_3] at h3
  exact a_of_bytes hs.1 hu.1 h0 h1 h2 h3
/-- a byte of the record's that is another one makes another sum -/
theorem rot_sum {t : Nat} (h1 : 1 ≤ t) (h9 : t ≤ 9) {p m : Nat} (hp : p < 47) (hm1 : 1 ≤ m) (hm : m < 256) {Q : List Nat} (hQ : Q.length = 47) (h : ∀ j, j < 47 → lst Q j = ch1 (pay t) p m j) : sumL Q ≠ sumL (pay t) := fun e => by
  have hB := lst_lt (blk_lt (pay_lt h9))
  have hn := check_none hB (check_all h1 h9) hp (m := m - 1) (by omega)
  rw [show m - 1 + 1 = m by omega] at hn
  apply hn
  have eQ : M.sumS 47 (lst Q) = M.mixB M.init (ch1 (blk (pay t)) p m) := by
    rw [sumS_one]
    exact M.mixB_congr _ fun j hj => rest_blk (pay_length t) hp h j hj
  have eP : M.sumS 47 (lst (pay t)) = M.mixB M.init (lst (blk (pay t))) := by
    rw [sumS_one]
    refine M.mixB_congr _ fun j hj => ?_
    rw [rest_blk (P := pay t) (m := 0) (pay_length t) hp (fun j _ => by unfold ch1; split <;> simp) j hj]
    unfold ch1
    split <;> simp
  have hb : ∀ j, j < 32 → M.outB (M.sumS 47 (lst Q)) j = M.outB (M.sumS 47 (lst (pay t))) j := fun j hj => by
    have h2 : lst (sumL Q) j = lst (sumL (pay t)) j := by rw [e]
    rw [lst_sumL hj, lst_sumL hj, hQ, pay_length] at h2
    exact h2
  rw [← eQ, ← eP]
  exact a_of_out (M.sumS_ok 47 _) (M.sumS_ok 47 _) hb
end Go.Proofs.YtjnnmeolonbedaaDoor.V
namespace Go.Proofs.YtjnnmeolonbedaaDoor
open Go Go.RowKit refRack
set_option maxRecDepth 100000
set_option linter.unusedVariables false
namespace Lab
theorem newIn_putW (W : Nat → Wt) (i : Nat) (X : Nat → Nat) (d a k : Nat) : newIn (putW W i X) d a k = newIn W d a k :=
  newIn_congr fun j _ => by
    unfold putW
    by_cases e : j = i
    · rw [if_pos e, e]; exact ⟨rfl, rfl⟩
    · rw [if_neg e]; exact ⟨rfl, rfl⟩
theorem holds_rotted (s : RS) (d a n d' a' : Nat) : (s.rotted d a n).holds d' a' = if d' = d ∧ a' = a then rotF (s.holds d a) n else s.holds d' a' := by
  cases hi : newIn s.W d a s.nw with
  | some i =>
    rw [rotted_some hi]
    unfold RS.holds
    show (match newIn (putW s.W i _) d' a' s.nw with | some k => (putW s.W i _ k).x | none => s.last d' a') = _
    rw [newIn_putW, hi]
    by_cases e : d' = d ∧ a' = a
    · obtain ⟨rfl, rfl⟩ := e
      rw [if_pos ⟨rfl, rfl⟩, hi]
      show (putW s.W i _ i).x = _
      unfold putW
      rw [if_pos rfl]
    · rw [if_neg e]
      cases hk : newIn s.W d' a' s.nw with
      | none => rfl
      | some k =>
        have h1 := newIn_lt hi
        have h2 := newIn_lt hk
        show (putW s.W i _ k).x = (s.W k).x
        unfold putW
        rw [if_neg (fun x => e (by rw [x] at h2; exact ⟨h2.2.1.symm.trans h1.2.1, h2.2.2.symm.trans h1.2.2⟩))]
  | none =>
    rw [rotted_none hi]
    unfold RS.holds
    show (match newIn s.W d' a' s.nw with | some k => (s.W k).x | none => (if d' = d ∧ a' = a then rotF (s.last d a) n else s.last d' a')) = _
    rw [hi]
    by_cases e : d' = d ∧ a' = a
    · obtain ⟨rfl, rfl⟩ := e
      rw [if_pos ⟨rfl, rfl⟩, hi, if_pos ⟨rfl, rfl⟩]
    · cases hk : newIn s.W d' a' s.nw with
      | none => simp only [if_neg e]
      | some k => simp only [if_neg e]
theorem rotted_same (s : RS) (d a n : Nat) : (s.rotted d a n).nd = s.nd ∧ (s.rotted d a n).ns = s.ns ∧ (s.rotted d a n).gone = s.gone ∧ (s.rotted d a n).off = s.off ∧ (s.rotted d a n).armed = s.armed ∧ (s.rotted d a n).cost = s.cost + 1 ∧ (s.rotted d a n).left = s.left := by
  cases hi : newIn s.W d a s.nw with
  | some i => rw [rotted_some hi]; exact ⟨rfl, rfl, rfl, rfl, rfl, rfl, rfl⟩
  | none => rw [rotted_none hi]; exact ⟨rfl, rfl, rfl, rfl, rfl, rfl, rfl⟩
theorem xor_ne {a t : Nat} (ht : t ≠ 0) : a ^^^ t ≠ a := fun h => by
  have h1 : a ^^^ (a ^^^ t) = a ^^^ a := by rw [h]
  rw [← Nat.xor_assoc, Nat.xor_self, Nat.zero_xor] at h1
  exact ht h1
theorem pS_sb {t : Nat} (h : t ≤ 9) : K.sb (pS t) = (List.range 32).map fun j => t + j := by
  unfold K.sb pS
  rw [strB_data, List.map_map]
  refine List.map_congr_left fun j hj => ?_
  have := List.mem_range.1 hj
  show (UInt8.ofNat ((t + j) % 256)).toNat = t + j
  rw [UInt8.toNat_ofNat']
  omega
theorem cnt_fold (n : Nat) (h : n ≤ 63) : K.cnt (K.fold (n : Int)) = [2 * n] := by
  have e : K.fold (n : Int) = 2 * n := by unfold K.fold; rw [if_pos (by omega)]; omega
  rw [e, K.cnt_small (by omega)]
theorem encs_ptr {t : Nat} (h : t ≤ 9) : K.encs (K.itsP (P t)) = [1, 2 * t, 1, 2 * (t + 1), 1, 2 * t, 2, 32] ++ (List.range 32).map fun j => t + j := by
  have e : P t = ⟨(t : Int), ((t + 1 : Nat) : Int), (t : Int), pS t⟩ := by
    unfold P
    rw [show (t : Int) % 1000 = (t : Int) by omega, show 1 + (t : Int) % 1024 = ((t + 1 : Nat) : Int) by omega, show (t : Int) % 77 = (t : Int) by omega]
  rw [e]
  show (1 :: K.cnt (K.fold (t : Int))) ++ ((1 :: K.cnt (K.fold ((t + 1 : Nat) : Int))) ++ ((1 :: K.cnt (K.fold (t : Int))) ++ ((2 :: (K.cnt (pS t).size ++ K.sb (pS t))) ++ []))) = _
  rw [cnt_fold t (by omega), cnt_fold (t + 1) (by omega), pS_size, K.cnt_small (by omega), pS_sb h]
  simp
theorem encs_pay {t : Nat} (h : t ≤ 9) : K.encs (itsU (rec_ t t)) = V.pay t := by
  have hp := encs_ptr h
  have hl : (K.encs (K.itsP (P t))).length = 40 := by rw [hp]; simp
  have e77 : K.cnt (K.fold 77) = [154, 1] := by
    rw [show K.fold 77 = 154 by decide, K.cnt_big (by omega), show 154 / 128 = 1 by decide, K.cnt_small (by omega)]
  show (1 :: K.cnt (K.fold 77)) ++ ((1 :: K.cnt (K.fold (t : Int))) ++ ((2 :: (K.cnt (K.ptrS (P t)).size ++ K.sb (K.ptrS (P t)))) ++ [])) = _
  rw [ptrS_eq (P_ok t), K.txt_size, K.sb_txt (K.encs_lt _), hl, cnt_fold t (by omega), e77, K.cnt_small (by omega), hp]
  unfold V.pay
  simp
/-- what is behind as many items is the same -/
theorem encs_pre : ∀ (l m : List K.It) (r s : List Nat), l.length = m.length → (∀ x ∈ l, K.Right x ∧ K.Fits x) → (∀ x ∈ m, K.Right x ∧ K.Fits x) → K.encs l ++ r = K.encs m ++ s → r = s
  | [], [], r, s, _, _, _, h => h
  | x :: l, y :: m, r, s, hl, hx, hy, h => by
    have h' : K.encI x ++ (K.encs l ++ r) = K.encI y ++ (K.encs m ++ s) := by
      rw [← List.append_assoc, ← List.append_assoc]
      exact h
    have e1 := K.takeI_enc (hx x (by simp)).1 (hx x (by simp)).2 (K.encs l ++ r)
    have e2 := K.takeI_enc (hy y (by simp)).1 (hy y (by simp)).2 (K.encs m ++ s)
    rw [h', e2] at e1
    injection e1 with e1
    injection e1 with _ e1
    exact encs_pre l m r s (by simpa using hl) (fun z hz => hx z (by simp [hz])) (fun z hz => hy z (by simp [hz])) e1.symm
  | [], _ :: _, _, _, h, _, _, _ => by simp at h
  | _ :: _, [], _, _, h, _, _, _ => by simp at h
theorem sec_zero (Q : List Nat) : lst (secB Q) 0 = Q.length + 32 := rfl
theorem sec_next (Q : List Nat) (j : Nat) : lst (secB Q) (j + 1) = lst (Q ++ (sumL Q ++ List.replicate (95 - Q.length) 0)) j := by
  rw [← List.append_assoc]
  rfl
theorem xor_none {a m : Nat} (h : a = a ^^^ m) : m = 0 := by
  by_cases e : m = 0
  · exact e
  · exact absurd h.symm (xor_ne e)
theorem rotten_not {t q m : Nat} (h1 : 1 ≤ t) (h9 : t ≤ 9) (hq : q < 128) (hm1 : 1 ≤ m) (hm : m < 256) {L : List Nat} (hL : ∀ j, j < 128 → lst L j = if j = q then lst (encL (rec_ t t)) j ^^^ m else lst (encL (rec_ t t)) j) (u : U) : ¬ Is L u := fun hu => by
  have ht := rec_ok (t := t) (n := t) h1 (by omega)
  have hE : encL (rec_ t t) = secB (V.pay t) := by unfold encL; rw [encs_pay h9]
  have hLu : L = secB (K.encs (itsU u)) := hu.2
  have hlen := its_len (ok_p hu.1) hu.1.2
  obtain ⟨Q, hQ⟩ : ∃ Q, Q = K.encs (itsU u) := ⟨_, rfl⟩
  rw [← hQ] at hLu hlen
  rw [hE, hLu] at hL
  have hP := V.pay_length t
  have h0 := hL 0 (by omega)
  rw [sec_zero, sec_zero, hP] at h0
  by_cases e0 : q = 0
  · subst e0
    rw [if_pos rfl] at h0
    have hT : Q ++ (sumL Q ++ List.replicate (95 - Q.length) 0) = V.pay t ++ (sumL (V.pay t) ++ List.replicate (95 - (V.pay t).length) 0) := by
      refine list_ext_lst (by simp only [List.length_append, sumL_length, List.length_replicate, hP]; omega) fun j hj => ?_
      have hj' : j < 127 := by
        simp only [List.length_append, sumL_length, List.length_replicate] at hj
        omega
      have h := hL (j + 1) (by omega)
      rw [if_neg (by omega), sec_next, sec_next] at h
      exact h
    rw [← encs_pay h9, hQ] at hT
    have hr := encs_pre (itsU u) (itsU (rec_ t t)) _ _ rfl (fun x hx => ⟨its_right (ok_p hu.1) hu.1.2.2 x hx, its_fits hu.1.2 x hx⟩) (fun x hx => ⟨its_right (ok_p ht) ht.2.2 x hx, its_fits ht.2 x hx⟩) hT
    rw [encs_pay h9, ← hQ] at hr
    have hrl := congrArg List.length hr
    simp only [List.length_append, sumL_length, List.length_replicate, hP] at hrl
    have := xor_none (show 47 + 32 = (47 + 32) ^^^ m by omega)
    omega
  · rw [if_neg (fun x => e0 x.symm)] at h0
    have hQl : Q.length = 47 := by omega
    have hnx : ∀ j, j < 127 → lst (Q ++ (sumL Q ++ List.replicate (95 - Q.length) 0)) j = if j + 1 = q then lst (V.pay t ++ (sumL (V.pay t) ++ List.replicate (95 - (V.pay t).length) 0)) j ^^^ m else lst (V.pay t ++ (sumL (V.pay t) ++ List.replicate (95 - (V.pay t).length) 0)) j := fun j hj => by
      have h := hL (j + 1) (by omega)
      rw [sec_next, sec_next] at h
      exact h
    by_cases e47 : q ≤ 47
    · refine V.rot_sum h1 h9 (p := q - 1) (m := m) (by omega) hm1 hm hQl (fun j hj => ?_) ?_
      · have h := hnx j (by omega)
        rw [lst_app, if_pos (show j < Q.length by omega), lst_app, if_pos (show j < (V.pay t).length by omega)] at h
        rw [h]
        unfold V.ch1
        by_cases e : j + 1 = q
        · rw [if_pos e, if_pos (by omega)]
        · rw [if_neg e, if_neg (by omega)]
      · refine list_ext_lst (by rw [sumL_length, sumL_length]) fun j hj => ?_
        rw [sumL_length] at hj
        have h := hnx (47 + j) (by omega)
        rw [if_neg (by omega), lst_app, if_neg (show ¬ 47 + j < Q.length by omega), hQl, lst_app, if_pos (show 47 + j - 47 < (sumL Q).length by rw [sumL_length]; omega), lst_app, if_neg (show ¬ 47 + j < (V.pay t).length by omega), hP, lst_app, if_pos (show 47 + j - 47 < (sumL (V.pay t)).length by rw [sumL_length]; omega), show 47 + j - 47 = j by omega] at h
        exact h
    · have hQP : Q = V.pay t := list_ext_lst (by omega) fun j hj => by
        have h := hnx j (by omega)
        rw [if_neg (by omega), lst_app, if_pos hj, lst_app, if_pos (show j < (V.pay t).length by omega)] at h
        exact h
      have h := hnx (q - 1) (by omega)
      rw [if_pos (by omega), hQP] at h
      have := xor_none h
      omega
end Lab
end Go.Proofs.YtjnnmeolonbedaaDoor
