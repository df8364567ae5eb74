/-
  'pack.takeCount' by contracts. Conditions: bytes that read as such.
-/
import Derived.Test.YthioanenljpclaaGreatDoorPackEncodeM
import Derived.IntWalk
namespace Go.Proofs.YthioanenljpclaaGreatDoor
set_option maxRecDepth 100000
open Go Go.RowKit
set_option linter.unusedVariables false

theorem and127 (x : Nat) (h : x < 256) : bits .and .u8 (x : Int) 127 = ((x % 128 : Nat) : Int) := by
  have key : (List.range 256).all (fun n => bits .and .u8 (n : Int) 127 == ((n % 128 : Nat) : Int)) = true := by decide +kernel
  have := List.all_eq_true.1 key x (by simp; omega)
  simpa only [beq_iff_eq] using this
theorem pow7 (k : Nat) : (128 : Nat) ^ k = 2 ^ (7 * k) := by rw [Nat.pow_mul]
theorem wraps_u64 (n : Int) (h₀ : 0 ≤ n) (h₁ : n < 2 ^ 64) : IntKind.u64.wrap n = n := by simp [IntKind.wrap, IntKind.bits, IntKind.signed]; omega
theorem or_place (v y k : Nat) (hv : v < 128 ^ k) (hy : y * 128 ^ k < 18446744073709551616) (hv2 : v < 18446744073709551616) :
    bits .or .u64 (v : Int) (((y * 128 ^ k : Nat)) : Int) = ((v + y * 128 ^ k : Nat) : Int) := by
  rw [(bits_nat .u64 64 (by decide) wraps_u64 v (y * 128 ^ k) (by omega) (by omega)).2]
  have h := Nat.two_pow_add_eq_or_of_lt (i := 7 * k) (b := v) (by rw [← pow7]; exact hv) y
  rw [← pow7, Nat.mul_comm] at h
  rw [Nat.or_comm, ← h, Nat.add_comm]
theorem tk_cons (i c x : Nat) (r : List Nat) : K.tk i c (x :: r) = if i = 9 ∧ 1 < x then none else if x = 0 ∧ 0 < i then none else if x < 128 then some (c + x * 128 ^ i, r) else K.tk (i + 1) (c + (x - 128) * 128 ^ i) r := rfl
theorem drop_cons {L : List Nat} {k x : Nat} (h : L[k]? = some x) : L.drop k = x :: L.drop (k + 1) := by
  have hk := (List.getElem?_eq_some_iff.1 h).1
  rw [List.drop_eq_getElem_cons hk]
  congr 1
  exact (List.getElem?_eq_some_iff.1 h).2
theorem lst_get {L : List Nat} {k x : Nat} (h : L[k]? = some x) : lst L k = x := by unfold lst; rw [List.getD_eq_getElem?_getD, h]; rfl

theorem place_or (v y k : Nat) (hv : v < 128 ^ k) (hy : y * 128 ^ k < 18446744073709551616) (hv2 : v < 18446744073709551616) :
    bits .or .u64 (v : Int) (IntKind.u64.wrap ((y : Int) * 2 ^ (7 * k))) = ((v + y * 128 ^ k : Nat) : Int) := by
  have e : ((y : Int) * 2 ^ (7 * k)) = ((y * 128 ^ k : Nat) : Int) := by rw [pow7, Int.natCast_mul, Int.natCast_pow]; rfl
  rw [e, wraps_u64 _ (by omega) (by omega)]
  exact or_place v y k hv hy hv2
/-- what takeCount answers -/
def TakeC (A : Option Addr) (c : Nat) (L : List Nat) (e : Ending) : Prop :=
  (K.tk 0 0 L = none ∧ e = .returned (.tuple #[.int .u64 0, .slice none 0 0, .bool false])) ∨
  ∃ v k, K.tk 0 0 L = some (v, L.drop k) ∧ v < 18446744073709551616 ∧ 0 < k ∧ k ≤ L.length ∧ e = .returned (.tuple #[.int .u64 v, .slice (subA A c k) (L.length - k) (c - k), .bool true])
set_option maxRecDepth 100000 in
set_option maxHeartbeats 1600000 in
theorem takeCount_any (A : Option Addr) (L : List Nat) (c B : Nat) (w : World) (hx : RdB w B A L.length (lst L)) (hB : B ≤ w.heap.size) (hL : ∀ x ∈ L, x < 256) (hlc : L.length ≤ c) (hcm : c ≤ maxLen) :
    Calls Tryz.prog 103 #[.slice A L.length c] w fun e w' => TakeC A c L e ∧ ∃ nq, w' = w.drewN nq := by
  obtain ⟨n, hn⟩ : ∃ n, n = L.length := ⟨_, rfl⟩
  rw [← hn] at hlc hx ⊢
  have HN := Lib.hid hn
  have HX := Lib.hid hx
  have HL := Lib.hid hL
  unfold maxLen at hcm
  clear hn hx hL
  go_enter Tryz.func103, Tryz.ntmps103
  go_wp2_with fail
  go_loop [2, 9] (fun y x => ∃ (k v : Nat), x = .int .i64 k ∧ y = .int .u64 v ∧ k ≤ n ∧ k ≤ 9 ∧ v < 128 ^ k ∧ Hid (K.tk k v (L.drop k) = K.tk 0 0 L)) (fun _ x => n - (intOf x).toNat)
  case atStart => exact ⟨0, 0, rfl, rfl, by omega, by omega, by simp, Lib.hid rfl⟩
  case round =>
    obtain ⟨k, v, rfl, rfl, hk, hk9, hv, E1⟩ := hrel
    have hp9 : 128 ^ k ≤ (128 : Nat) ^ 9 := Nat.pow_le_pow_right (by omega) hk9
    have hv2 : v < 9223372036854775808 := by omega
    by_cases hlt : k < n
    · obtain ⟨x, hxk⟩ : ∃ x, L[k]? = some x := ⟨_, List.getElem?_eq_getElem (by rw [← HN.out]; exact hlt)⟩
      have hx256 := HL.out x (List.mem_of_getElem? hxk)
      obtain ⟨b, o, hA, hb, c0, _⟩ := HX.out k hlt
      rw [lst_get hxk] at c0
      subst hA
      have hdc := drop_cons hxk
      have E2 : Hid ((if k = 9 ∧ 1 < x then none else if x = 0 ∧ 0 < k then none else if x < 128 then some (v + x * 128 ^ k, L.drop (k + 1)) else K.tk (k + 1) (v + (x - 128) * 128 ^ k) (L.drop (k + 1))) = K.tk 0 0 L) := Lib.hid (by rw [← E1.out, hdc, tk_cons])
      clear hdc hxk E1
      have HA := and127 x hx256
      obtain ⟨y, hy⟩ : ∃ y, y = x % 128 := ⟨_, rfl⟩
      rw [← hy] at HA
      have hy1 : y < 128 := by omega
      have i2 : (k : Int) < (n : Int) := by omega
      have j1 : (0 : Int) ≤ 7 * (k : Int) := by omega
      have j2 : (7 : Int) * (k : Int) ≤ 63 := by omega
      have y1 : (0 : Int) ≤ (y : Int) := by omega
      have y2 : (y : Int) < 128 := by omega
      have HY := Lib.hid hy
      clear hy
      by_cases ha : k = 9 ∧ 1 < x
      · have i4 : (1 : Int) < (x : Int) := by omega
        have t9 : ((k : Int) == 9) = true := by simp; omega
        have E3 : Hid (K.tk 0 0 L = none) := Lib.hid (by rw [← E2.out, if_pos ha])
        clear E2 ha
        go_wp2_with fail
        go_ret3
        exact ⟨.inl ⟨E3.out, rfl⟩, 0, rfl⟩
      have hyp : y * 128 ^ k < 9223372036854775809 := by
        by_cases h9 : k = 9
        · subst h9
          have h1 : y ≤ 1 := by have := HY.out; omega
          exact Nat.lt_of_le_of_lt (Nat.mul_le_mul_right _ h1) (by decide +kernel)
        · have h8 : 128 ^ k ≤ (128 : Nat) ^ 8 := Nat.pow_le_pow_right (by omega) (by omega)
          have := Nat.mul_le_mul (show y ≤ 127 by omega) h8
          omega
      have HO := place_or v y k hv (by omega) (by omega)
      obtain ⟨v', hv'⟩ : ∃ v', v' = v + y * 128 ^ k := ⟨_, rfl⟩
      rw [← hv'] at HO
      have hv3 : v' < 18446744073709551616 := by omega
      have HV := Lib.hid hv'
      clear hv'
      by_cases h0 : x = 0
      · have t0 : ((x : Int) == 0) = true := by simp; omega
        by_cases hk0 : 0 < k
        · have i5 : (0 : Int) < (k : Int) := by omega
          have E3 : Hid (K.tk 0 0 L = none) := Lib.hid (by rw [← E2.out, if_neg ha, if_pos ⟨h0, hk0⟩])
          have t6 : (x : Int) ≤ 1 := by omega
          clear E2 ha h0
          by_cases h9 : k = 9
          · have t9 : ((k : Int) == 9) = true := by simp; omega
            clear h9
            go_wp2_with fail
            go_ret3
            exact ⟨.inl ⟨E3.out, rfl⟩, 0, rfl⟩
          · have t9 : ((k : Int) == 9) = false := by simp; omega
            clear h9
            go_wp2_with fail
            go_ret3
            exact ⟨.inl ⟨E3.out, rfl⟩, 0, rfl⟩
        · have t9 : ((k : Int) == 9) = false := by simp; omega
          have i5 : (k : Int) ≤ 0 := by omega
          have i6 : (x : Int) < 128 := by omega
          have E3 : Hid (K.tk 0 0 L = some (v', L.drop (k + 1))) := Lib.hid (by rw [← E2.out, if_neg ha, if_neg (by omega), if_pos (by omega), HV.out, HY.out, Nat.mod_eq_of_lt (by omega)])
          have HS := slice_from (some ⟨b, o, none⟩) n c (k + 1) ((k : Int) + 1) (by omega) (by omega)
          have W1 : IntKind.i64.wrap ((k : Int) + 1) = (k : Int) + 1 := IntWalk.i64_in _ (by omega)
          have W2 : (0 : Int) ≤ (k : Int) + 1 := by omega
          clear E2 ha h0 hk0
          go_wp2_with fail
          go_quiet (fail)
          go_wp2_with fail
          go_ret3
          exact ⟨.inr ⟨v', k + 1, E3.out, hv3, by omega, by rw [← HN.out]; omega, by rw [← HN.out]; rfl⟩, nq, rfl⟩
      · have t0 : ((x : Int) == 0) = false := by simp; omega
        have i4 : (0 : Int) < (x : Int) := by omega
        by_cases hs : x < 128
        · have i6 : (x : Int) < 128 := by omega
          have E3 : Hid (K.tk 0 0 L = some (v', L.drop (k + 1))) := Lib.hid (by rw [← E2.out, if_neg ha, if_neg (by omega), if_pos hs, HV.out, HY.out, Nat.mod_eq_of_lt hs])
          by_cases h9 : k = 9
          · have t9 : ((k : Int) == 9) = true := by simp; omega
            have i7 : (x : Int) ≤ 1 := by omega
            clear h9
            have HS := slice_from (some ⟨b, o, none⟩) n c (k + 1) ((k : Int) + 1) (by omega) (by omega)
            have W1 : IntKind.i64.wrap ((k : Int) + 1) = (k : Int) + 1 := IntWalk.i64_in _ (by omega)
            have W2 : (0 : Int) ≤ (k : Int) + 1 := by omega
            clear E2 ha h0
            go_wp2_with fail
            go_quiet (fail)
            go_wp2_with fail
            go_ret3
            exact ⟨.inr ⟨v', k + 1, E3.out, hv3, by omega, by rw [← HN.out]; omega, by rw [← HN.out]; rfl⟩, nq, rfl⟩
          · have t9 : ((k : Int) == 9) = false := by simp; omega
            clear h9
            have HS := slice_from (some ⟨b, o, none⟩) n c (k + 1) ((k : Int) + 1) (by omega) (by omega)
            have W1 : IntKind.i64.wrap ((k : Int) + 1) = (k : Int) + 1 := IntWalk.i64_in _ (by omega)
            have W2 : (0 : Int) ≤ (k : Int) + 1 := by omega
            clear E2 ha h0
            go_wp2_with fail
            go_quiet (fail)
            go_wp2_with fail
            go_ret3
            exact ⟨.inr ⟨v', k + 1, E3.out, hv3, by omega, by rw [← HN.out]; omega, by rw [← HN.out]; rfl⟩, nq, rfl⟩
        · have i6 : (128 : Int) ≤ (x : Int) := by omega
          have t9 : ((k : Int) == 9) = false := by simp; omega
          have hk8 : k ≤ 8 := by omega
          have hyx : y = x - 128 := by have := HY.out; omega
          have E3 : Hid (K.tk (k + 1) v' (L.drop (k + 1)) = K.tk 0 0 L) := Lib.hid (by rw [← E2.out, if_neg ha, if_neg (by omega), if_neg hs, HV.out, hyx])
          have hv4 : v' < 128 ^ (k + 1) := by
            rw [HV.out, Nat.pow_succ]
            have := Nat.mul_le_mul_right (128 ^ k) (show y ≤ 127 by omega)
            omega
          clear E2 ha h0 hs hyx
          go_wp2_with fail
          go_round
          case rel => exact ⟨k + 1, v', by go_num, rfl, by omega, by omega, hv4, E3⟩
          case measure => simp [intOf]; omega
    · have i2 : (n : Int) ≤ (k : Int) := by omega
      have E3 : Hid (K.tk 0 0 L = none) := Lib.hid (by rw [← E1.out, List.drop_eq_nil_of_le (by rw [← HN.out]; omega)]; rfl)
      clear E1
      go_wp2_with fail
      go_ret3
      exact ⟨.inl ⟨E3.out, rfl⟩, 0, rfl⟩
end Go.Proofs.YthioanenljpclaaGreatDoor
namespace Go.Proofs.YthioanenljpclaaGreatDoor
set_option maxRecDepth 100000
open Go Go.RowKit
set_option linter.unusedVariables false

theorem slice_fromU (A : Option Addr) (n c lo : Nat) (h : lo ≤ n) (w : World) :
    (Instr.sliceAt 51 (.slice A n c) (some (.int .u64 (lo : Int))) none none).run Tryz.prog w = .ok (.slice (subA A c lo) (n - lo) (c - lo)) w := by
  have hu : Tryz.prog.underlying 51 = some (.slice (Tryz.prog.elem 51)) := by kernel_rfl
  have he : Tryz.prog.elem 51 = 5 := by kernel_rfl
  rw [run_sliceAt_slice (P := Tryz.prog) (w := w) (h := hu), run_slice_l (P := Tryz.prog) (w := w) 51 A n c hu .u64 (lo : Int) (by omega) (by omega), he, sizeOf_u8]
  simp [sliced, subA]
theorem slice_toU (A : Option Addr) (n c hi : Nat) (h : hi ≤ c) (w : World) :
    (Instr.sliceAt 51 (.slice A n c) none (some (.int .u64 (hi : Int))) none).run Tryz.prog w = .ok (.slice (subA A c 0) hi c) w := by
  have hu : Tryz.prog.underlying 51 = some (.slice (Tryz.prog.elem 51)) := by kernel_rfl
  have he : Tryz.prog.elem 51 = 5 := by kernel_rfl
  rw [run_sliceAt_slice (P := Tryz.prog) (w := w) (h := hu), run_slice_h (P := Tryz.prog) (w := w) 51 A n c hu .u64 (hi : Int) (by omega) (by omega), he, sizeOf_u8]
  simp [sliced, subA]
theorem lst_drop (L : List Nat) (k : Nat) : (fun j => lst L (k + j)) = lst (L.drop k) := by
  funext j
  unfold lst
  simp [List.getD_eq_getElem?_getD, List.getElem?_drop]
theorem RdB.dropL {w : World} {B c : Nat} {A : Option Addr} {L : List Nat} (h : RdB w B A L.length (lst L)) (k : Nat) (hc : L.length ≤ c) : RdB w B (subA A c k) (L.drop k).length (lst (L.drop k)) := by
  rw [← lst_drop, List.length_drop]
  exact h.sub hc
theorem RdB.congrL {w : World} {B m : Nat} {A : Option Addr} {L : List Nat} (h : RdB w B A m (lst L)) (e : m = L.length) : RdB w B A L.length (lst L) := e ▸ h
theorem strB_take (L : List Nat) (v : Nat) (h : v ≤ L.length) : strB v (lst L) = K.txt (L.take v) := by
  have e : (L.take v).length = v := by rw [List.length_take]; omega
  rw [← strB_lst, e]
  exact strB_congr fun j hj => by unfold lst; simp [List.getD_eq_getElem?_getD, List.getElem?_take, hj]
theorem item_blk (w : World) (nq : Nat) (k n s z0 z1 z2 : Value) : Blk (((((w.alloc (.cells #[z0, z1, z2] 104)).drewN nq).setCell ⟨w.heap.size, 0, none⟩ k).setCell ⟨w.heap.size, 1, none⟩ n).setCell ⟨w.heap.size, 2, none⟩ s) w.heap.size 104 #[k, n, s] := by
  have h := (((((Blk.new w 104 #[z0, z1, z2])).drewN nq).set_ 0 k).set_ 1 n).set_ 2 s
  exact h
theorem below_drewNP {b : Nat} {w w' : World} (h : Below b w w') (n : Nat) : Below b w (w'.drewN n) := ⟨h.os, h.tape, h.output, h.size, h.block⟩
theorem item_below (w : World) (nq : Nat) (k n s : Value) (cs : Array Value) : Below w.heap.size w (((((w.alloc (.cells cs 104)).drewN nq).setCell ⟨w.heap.size, 0, none⟩ k).setCell ⟨w.heap.size, 1, none⟩ n).setCell ⟨w.heap.size, 2, none⟩ s) :=
  (((below_drewNP ((Below.refl _ _).alloc (Nat.le_refl _) _) nq).setCell (p := ⟨w.heap.size, 0, none⟩) (Nat.le_refl _) k).setCell (p := ⟨w.heap.size, 1, none⟩) (Nat.le_refl _) n).setCell (p := ⟨w.heap.size, 2, none⟩) (Nat.le_refl _) s
theorem results_item {fn : Func} {t s u : Tmp} {ty : TypeId} (h : fn.results = #[.cell t ty, .tmp s, .tmp u]) {tmps : Array Value} {g : Nat} {v v1 v2 : Value} {w : World} (hp : tmps.getD t undef = .pointer (some ⟨g, 0, none⟩)) (hl : (loadVar ty ⟨g, 0, none⟩).run Tryz.prog w = .ok v w) (h1 : tmps.getD s undef = v1) (h2 : tmps.getD u undef = v2) :
    (results fn tmps).run Tryz.prog w = .ok (.tuple #[v, v1, v2]) w := by
  have hp2 : tmps[t]?.getD undef = .pointer (some ⟨g, 0, none⟩) := by rw [← hp]; simp
  have h12 : tmps[s]?.getD undef = v1 := by rw [← h1]; simp
  have h22 : tmps[u]?.getD undef = v2 := by rw [← h2]; simp
  simp [results, h]
  rw [hp2]
  simp [asAddr, hl, h12, h22]
theorem isize_item : (Tryz.prog.info? 104).map (·.size) = some 3 := by kernel_rfl
/-- what takeItem answers -/
def TakeI (L : List Nat) (c B : Nat) (w : World) (e : Ending) : Prop :=
  (K.takeI L = none ∧ e = .returned (.tuple #[.agg #[.int .i64 0, .int .i64 0, .string ⟨#[]⟩], .slice none 0 0, .bool false])) ∨
  ∃ x k A', K.takeI L = some (x, L.drop k) ∧ 0 < k ∧ k ≤ L.length ∧ RdB w B A' (L.length - k) (lst (L.drop k)) ∧ e = .returned (.tuple #[.agg (itA x), .slice A' (L.length - k) (c - k), .bool true])
theorem takeI_cons (b : Nat) (r : List Nat) : K.takeI (b :: r) = K.pickI b (K.tk 0 0 r) := rfl
set_option maxRecDepth 100000 in
set_option maxHeartbeats 1600000 in
theorem takeItem_any (A : Option Addr) (b0 : Nat) (r : List Nat) (c B : Nat) (w : World) (hx : RdB w B A (r.length + 1) (lst (b0 :: r))) (hB : B ≤ w.heap.size) (hL : ∀ x ∈ b0 :: r, x < 256) (hlc : r.length + 1 ≤ c) (hcm : c ≤ maxLen) :
    Calls Tryz.prog 99 #[.slice A (r.length + 1) c] w fun e w' => TakeI (b0 :: r) c B w e ∧ Below w.heap.size w w' := by
  have hr : RdB w B (subA A c 1) r.length (lst r) := RdB.dropL (L := b0 :: r) hx 1 hlc
  have hcm' : c - 1 ≤ maxLen := by omega
  have HT := fun W (h : RdB W B (subA A c 1) r.length (lst r)) (hW : B ≤ W.heap.size) => takeCount_any (subA A c 1) r (c - 1) B W h hW (fun x hx => hL x (by simp [hx])) (by omega) hcm'
  obtain ⟨b, o, hA, hb, c0, _⟩ := hx 0 (by omega)
  rw [show lst (b0 :: r) 0 = b0 from rfl, Nat.add_zero] at c0
  have hb0 := hL b0 (by simp)
  obtain ⟨m, hm⟩ : ∃ m, m = r.length := ⟨_, rfl⟩
  rw [← hm] at hx hlc hr HT ⊢
  have HM := Lib.hid hm
  have HX := Lib.hid hx
  have HR := Lib.hid hr
  have HL := Lib.hid hL
  have HTT := Lib.hid HT
  have HBB := Lib.hid hB
  unfold maxLen at hcm
  have S1 : ∀ W : World, (Instr.sliceAt 51 (.slice A (m + 1) c) (some (.int .i64 1)) none none).run Tryz.prog W = .ok (.slice (subA A c 1) m (c - 1)) W := fun W => slice_from A (m + 1) c 1 1 rfl (by omega) W
  subst hA
  clear hm hx hr hL HT hcm' hB
  have L1 : Hid (Below w.heap.size w (w.alloc (.cells #[.int .i64 0, .int .i64 0, .string ⟨#[]⟩] 104))) := Lib.hid ((Below.refl _ _).alloc (Nat.le_refl _) _)
  have hbw : b < w.heap.size := by have := HBB.out; omega
  go_enter Tryz.func99, Tryz.ntmps99
  go_wp2_with fail
  refine (HTT.out _ (HR.out.below L1.out HBB.out) (by have := HBB.out; simp; omega)).mono ?_
  rintro e w' ⟨h, nq, rfl⟩
  unfold TakeC at h
  have C0 : ((w.alloc (.cells #[.int .i64 0, .int .i64 0, .string ⟨#[]⟩] 104)).drewN nq).cell? ⟨b, o, none⟩ = some (.int .u8 (b0 : Int)) := (World.cell?_of_block (Below.heap_alloc w _ b hbw)).trans c0
  rcases h with ⟨hq, rfl⟩ | ⟨v, k, hq, hv, hk0, hk, he⟩
  · have E1 : Hid (K.takeI (b0 :: r) = none) := Lib.hid (by rw [takeI_cons, hq]; rfl)
    clear hq
    go_wp2_with fail
    refine bodyPost_ret (results_item rfl rfl (loadVar_blk (item_blk _ _ _ _ _ _ _ _) Tryz.underlying104 rfl isize_item) rfl rfl) rfl ?_
    exact ⟨.inl ⟨E1.out, rfl⟩, item_below _ _ _ _ _ _⟩
  · rw [← HM.out] at hk he
    have hrd := (HR.out.congrL HM.out).dropL k (by have := HM.out; omega) (c := c - 1)
    rw [List.length_drop, ← HM.out] at hrd
    obtain ⟨A2, hA2⟩ : ∃ A2, A2 = subA (subA (some ⟨b, o, none⟩) c 1) (c - 1) k := ⟨_, rfl⟩
    obtain ⟨c2, hc2⟩ : ∃ c2, c2 = c - 1 - k := ⟨_, rfl⟩
    obtain ⟨q, hqq⟩ : ∃ q, q = m - k := ⟨_, rfl⟩
    rw [← hA2, ← hqq] at hrd
    rw [← hA2, ← hqq, ← hc2] at he
    have HRD := Lib.hid hrd
    have HQQ := Lib.hid hqq
    have HC2 := Lib.hid hc2
    have q1 : (q : Int) ≤ 9223372036854775807 := by omega
    have HQ := Lib.hid hq
    clear hq hrd hA2 hc2 hqq
    subst he
    by_cases h1 : b0 = 1
    · subst h1
      go_wp2_with fail
      refine (unfold_any v _ hv).mono ?_
      rintro e w' ⟨rfl, rfl⟩
      go_wp2_with fail
      refine bodyPost_ret (results_item rfl rfl (loadVar_blk (item_blk _ _ _ _ _ _ _ _) Tryz.underlying104 rfl isize_item) rfl rfl) rfl ?_
      have hqq := HQQ.out
      have hmm := HM.out
      have hcc := HC2.out
      refine ⟨.inr ⟨⟨1, K.unf v, ⟨#[]⟩⟩, k + 1, A2, by rw [takeI_cons, HQ.out]; rfl, by omega, by simp; omega, ?_, ?_⟩, item_below _ _ _ _ _ _⟩
      · rw [show (1 :: r).length - (k + 1) = q by simp; omega]
        exact HRD.out
      · rw [show (1 :: r).length - (k + 1) = q by simp; omega, show c - (k + 1) = c2 by omega]
        rfl
    · have t1 : ((b0 : Int) == 1) = false := by simp; omega
      by_cases h2 : b0 = 2 ∧ v ≤ 4000 ∧ v ≤ q
      · obtain ⟨h2, h3, h4⟩ := h2
        subst h2
        have i3 : (v : Int) ≤ 4000 := by omega
        have i4 : (v : Int) ≤ (q : Int) := by omega
        have S2 := slice_toU A2 q c2 v (by have := HC2.out; have := HQQ.out; omega)
        have S3 := slice_fromU A2 q c2 v (by omega)
        have hrd := (HRD.out.below (below_drewNP L1.out nq) HBB.out)
        have hrd2 : RdB ((w.alloc (.cells #[.int .i64 0, .int .i64 0, .string ⟨#[]⟩] 104)).drewN nq) B (subA A2 c2 0) v (lst (r.drop k)) := fun j hj => by
          have := hrd.sub (c := c2) (lo := 0) (by have := HC2.out; have := HQQ.out; omega) j (by omega)
          simpa using this
        have SC0 := conv_rd (cap := c2) hrd2
        have SC1 := conv_rd (w := ((w.alloc (.cells #[.int .i64 0, .int .i64 0, .string ⟨#[]⟩] 104)).drewN nq).drew) (cap := c2) hrd2
        rw [strB_take _ _ (by rw [List.length_drop, ← HM.out, ← HQQ.out]; omega)] at SC0 SC1
        obtain ⟨st, hst⟩ : ∃ st, st = K.txt ((r.drop k).take v) := ⟨_, rfl⟩
        rw [← hst] at SC0 SC1
        have HST := Lib.hid hst
        have B1 : Hid (Blk ((w.alloc (.cells #[.int .i64 0, .int .i64 0, .string ⟨#[]⟩] 104)).drewN nq) w.heap.size 104 #[.int .i64 0, .int .i64 0, .string ⟨#[]⟩]) := Lib.hid ((Blk.new w _ _).drewN nq)
        have L2 : Hid (Below w.heap.size w ((w.alloc (.cells #[.int .i64 0, .int .i64 0, .string ⟨#[]⟩] 104)).drewN nq)) := Lib.hid (below_drewNP L1.out nq)
        clear hrd hrd2 hst
        generalize (w.alloc (.cells #[.int .i64 0, .int .i64 0, .string ⟨#[]⟩] 104)).drewN nq = W0 at C0 SC0 SC1 B1 L2 ⊢
        go_wp2_with fail
        have f0 := B1.out.frozen 0
        have f1 := B1.out.frozen 1
        have f2 := B1.out.frozen 2
        have d0 := B1.out.cell 0
        have d1 := B1.out.cell 1
        have d2 := B1.out.cell 2
        simp only [List.getElem?_toArray, List.getElem?_cons_zero, List.getElem?_cons_succ] at d0 d1 d2
        clear C0
        go_region
        go_wp2_with fail
        have B2 : Blk ((((W0.setCell ⟨w.heap.size, 0, none⟩ (.int .i64 2)).setCell ⟨w.heap.size, 1, none⟩ (.int .i64 0)).setCell ⟨w.heap.size, 2, none⟩ (.string st)).drew) w.heap.size 104 #[.int .i64 2, .int .i64 0, .string st] := (((B1.out.set_ 0 (.int .i64 2)).set_ 1 (.int .i64 0)).set_ 2 (.string st)).drew
        refine bodyPost_ret (results_item rfl rfl (loadVar_blk B2 Tryz.underlying104 rfl isize_item) rfl rfl) rfl ?_
        have hqq := HQQ.out
        have hmm := HM.out
        have hcc := HC2.out
        refine ⟨.inr ⟨⟨2, 0, st⟩, k + 1 + v, subA A2 c2 v, ?_, by omega, by simp; omega, ?_, ?_⟩, (((L2.out.setCell (p := ⟨w.heap.size, 0, none⟩) (Nat.le_refl _) _).setCell (p := ⟨w.heap.size, 1, none⟩) (Nat.le_refl _) _).setCell (p := ⟨w.heap.size, 2, none⟩) (Nat.le_refl _) _).drew⟩
        · rw [takeI_cons, HQ.out, K.pickI_some, if_neg (by omega), if_pos ⟨rfl, h3, by rw [List.length_drop]; omega⟩, ← HST.out, List.drop_drop, show k + 1 + v = (k + v) + 1 by omega]
          rfl
        · have := (HRD.out.congrL (by rw [List.length_drop]; omega)).dropL v (c := c2) (by rw [List.length_drop]; omega)
          rw [show (2 :: r).length - (k + 1 + v) = ((r.drop k).drop v).length by simp; omega, show (2 :: r).drop (k + 1 + v) = (r.drop k).drop v by rw [List.drop_drop, show k + 1 + v = (k + v) + 1 by omega]; rfl]
          exact this
        · rw [show (2 :: r).length - (k + 1 + v) = q - v by simp; omega, show c - (k + 1 + v) = c2 - v by omega]
          rfl
      · have E1 : Hid (K.takeI (b0 :: r) = none) := Lib.hid (by rw [takeI_cons, HQ.out, K.pickI_some, if_neg h1, if_neg (by rw [List.length_drop, ← HM.out, ← HQQ.out]; exact h2)])
        by_cases hb2 : b0 = 2
        · have t2 : ((b0 : Int) == 2) = true := by simp; omega
          by_cases h3 : v ≤ 4000
          · have i3 : (v : Int) ≤ 4000 := by omega
            have i4 : (q : Int) < (v : Int) := by omega
            clear h2 hb2
            go_wp2_with fail
            refine bodyPost_ret (results_item rfl rfl (loadVar_blk (item_blk _ _ _ _ _ _ _ _) Tryz.underlying104 rfl isize_item) rfl rfl) rfl ?_
            exact ⟨.inl ⟨E1.out, rfl⟩, item_below _ _ _ _ _ _⟩
          · have i3 : (4000 : Int) < (v : Int) := by omega
            clear h2 hb2
            go_wp2_with fail
            refine bodyPost_ret (results_item rfl rfl (loadVar_blk (item_blk _ _ _ _ _ _ _ _) Tryz.underlying104 rfl isize_item) rfl rfl) rfl ?_
            exact ⟨.inl ⟨E1.out, rfl⟩, item_below _ _ _ _ _ _⟩
        · have t2 : ((b0 : Int) == 2) = false := by simp; omega
          clear h2 hb2
          go_wp2_with fail
          refine bodyPost_ret (results_item rfl rfl (loadVar_blk (item_blk _ _ _ _ _ _ _ _) Tryz.underlying104 rfl isize_item) rfl rfl) rfl ?_
          exact ⟨.inl ⟨E1.out, rfl⟩, item_below _ _ _ _ _ _⟩
end Go.Proofs.YthioanenljpclaaGreatDoor
