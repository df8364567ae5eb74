/-
  'parity.Rebuild' without a bad column, and where it refuses, each by a contract. Conditions: what is handed in reads as rows of bytes, and as a row of numbers.
-/
import Derived.Test.YtlhjpceaookanaaGreatDoorParAidM
import Derived.Test.YtlhjpceaookanaaGreatDoorDrawByM
import Derived.Test.YtlhjpceaookanaaGreatDoorArrCallsM
import Derived.Laws.OwnMore
namespace Go.Proofs.YtlhjpceaookanaaGreatDoor
open Go Go.RowKit
set_option maxRecDepth 100000
set_option linter.unusedVariables false
theorem infoZ : (Tryz.prog.info? 3).map (fun i => (i.zero, i.size, i.bytes)) = some (some (.int .i64 0), 1, 8) := by kernel_rfl
theorem sizeOf_int (w : World) : (sizeOf 3).run Tryz.prog w = .ok 1 w := by
  obtain ⟨i0, hi, hz0, hz1, hz2⟩ := info_parts infoZ
  simp [sizeOf, typeInfo, hi, hz1]
theorem slice_toZ (A : Option Addr) (n c hi : Nat) (H : Int) (hH : H = (hi : Int)) (h : hi ≤ c) (w : World) :
    (Instr.sliceAt 22 (.slice A n c) none (some (.int .i64 H)) none).run Tryz.prog w = .ok (.slice (subA A c 0) hi c) w := by
  subst hH
  have hu : Tryz.prog.underlying 22 = some (.slice (Tryz.prog.elem 22)) := by kernel_rfl
  have he : Tryz.prog.elem 22 = 3 := by kernel_rfl
  rw [run_sliceAt_slice (P := Tryz.prog) (w := w) (h := hu), run_slice_h (P := Tryz.prog) (w := w) 22 A n c hu .i64 (hi : Int) (by omega) (by omega), he, sizeOf_int]
  simp [sliced, subA]
theorem slice_nil0 (w : World) : (Instr.sliceAt 22 (.slice none 0 0) (some (.int .i64 0)) none none).run Tryz.prog w = .ok (.slice none 0 0) w := by kernel_rfl
theorem slice_nil1 (w : World) : (Instr.sliceAt 22 (.slice none 0 0) none (some (.int .i64 0)) none).run Tryz.prog w = .ok (.slice none 0 0) w := by kernel_rfl
/-- 'append' of one number onto a row of the call's own -/
theorem wpList_pushZ {w : World} {ops : Array Oper} {rest : List Oper} {o : Oper} {a : Act} {Q : Exit → Act → World → Prop} (hgd : o.guard = none) (s x : Operand)
    (ho : o.op = .call { callee := .builtin .append, args := #[s, x], argTypes := #[22, 22] }) {base : Nat}
    {v : Value} {n : Nat} {xs : List Value} (hs : a.eval s = v) (hown : w.ownsRow base 3 1 v n xs) {ad : Addr} (hx : a.eval x = .slice (some ad) 1 1) {u : Int} (hc : w.cell? ad = some (.int .i64 u)) (hn : n + 1 ≤ 1000000) (hbase : base ≤ w.heap.size)
    (h : ∀ v' w', w'.ownsRow base 3 1 v' (n + 1) (xs ++ [.int .i64 u]) → w.grownBy w' v.ownBlock → wpList Tryz.prog ops Q rest (a.put o.dst v') w') : wpList Tryz.prog ops Q (o :: rest) a w := by
  obtain ⟨i0, hi0, h0, h1, h2⟩ := info_parts infoZ
  refine wpList_append_own w hgd s x 22 ho base 3 i0 (.int .i64 0) 1 8 Tryz.underlying22 hi0 h0 h1 h2 rfl (by omega) v n xs hs hown ad 1 1 [.int .i64 u] hx rfl ?_ ?_ (by simp only [maxLen]; omega) ?_ hbase (fun v' w' a1 a2 _ => h v' w' a1 a2)
  · intro j y hj
    have hj0 : j = 0 := by
      rcases Nat.eq_zero_or_pos j with e | e
      · exact e
      · simp [show j ≠ 0 by omega] at hj
    subst hj0
    simp at hj
    subst hj
    rw [show ad.add 0 = ad by obtain ⟨b, o, s⟩ := ad; cases s <;> simp [Addr.add]]
    exact hc
  · intro y hy
    simp at hy
    subst hy
    rfl
  · omega
theorem below_grown {w0 w w' : World} {base n : Nat} {v : Value} {e : TypeId} {xs : List Value} (hb : Below base w0 w) (ho : w.ownsRow base e 1 v n xs) (hg : w.grownBy w' v.ownBlock) (hs : base ≤ w.heap.size) : Below base w0 w' :=
  hb.trans ⟨hg.os, hg.tape, hg.output, hg.size, fun k hk => hg.block k (by omega) (fun e => by
    rcases ho.2 with ⟨rfl, _⟩ | ⟨g, cap, cur, rfl, h1, _⟩
    · cases e
    · simp [Value.ownBlock] at e
      omega)⟩

set_option maxHeartbeats 800000 in
theorem sound_nil (k : Int) (w : World) : Calls Tryz.prog 112 #[.slice none 0 0, .int .i64 k] w fun e w' => ∃ A c, e = .returned (.slice A 3 c) ∧ Below w.heap.size w w' := by
  have hmk : ∀ W : World, (Instr.makeSlice 22 (.int .i64 0) (.int .i64 3)).run Tryz.prog W = .ok (.slice (some ⟨W.heap.size, 0, none⟩) 0 3) (W.alloc (.cells #[.int .i64 0, .int .i64 0, .int .i64 0] 3)) := fun _ => by kernel_rfl
  have O0 : Hid (∃ xs, (w.alloc (.cells #[.int .i64 0, .int .i64 0, .int .i64 0] 3)).ownsRow w.heap.size 3 1 (.slice (some ⟨w.heap.size, 0, none⟩) 0 3) 0 xs) :=
    Lib.hid ⟨[], rfl, .inr ⟨w.heap.size, 3, _, rfl, Nat.le_refl _, Blk.new w 3 _, by omega, by simp [maxLen], rfl, rfl⟩⟩
  have L0 : Hid (Below w.heap.size w (w.alloc (.cells #[.int .i64 0, .int .i64 0, .int .i64 0] 3))) := Lib.hid ((Below.refl _ _).alloc (Nat.le_refl _) _)
  go_enter Tryz.func112, Tryz.ntmps112
  go_wp2_with fail
  clear hmk
  generalize hwz : w.heap.size = z at *
  have HWZ := Lib.hid hwz
  clear hwz
  go_loopw [0, 5, 8] (fun y v x wr => ∃ j : Nat, x = .int .i64 j ∧ j ≤ 3 ∧ y = .slice none 0 0 ∧ Hid (∃ xs, wr.ownsRow z 3 1 v j xs) ∧ Hid (Below z w wr)) (fun _ _ x _ => 3 - (intOf x).toNat)
  case atStart => exact ⟨0, rfl, by omega, rfl, O0, L0⟩
  case round =>
    clear O0 L0
    obtain ⟨j, rfl, hj, rfl, O1, L1⟩ := hrel
    obtain ⟨xs, o1⟩ := O1.out
    have s1 := L1.out.size
    rw [HWZ.out] at s1
    by_cases hlt : j < 3
    · have O2 : Hid ((wr.alloc (.cells #[.int .i64 (j : Int)] 3)).ownsRow z 3 1 u5 j xs) := Lib.hid (o1.alloc _)
      have HC : Hid ((wr.alloc (.cells #[.int .i64 (j : Int)] 3)).cell? ⟨wr.heap.size, 0, none⟩ = some (.int .i64 (j : Int))) := by
        show _ = _
        rw [(Blk.new wr _ _).cell]
        rfl
      have hzz : z ≤ (wr.alloc (.cells #[.int .i64 (j : Int)] 3)).heap.size := by simp; omega
      have HZ := Lib.hid hzz
      clear hzz o1 O1
      go_wp2_with ((with_reducible refine wpList_pushZ rfl (.tmp 25) (.tmp 27) rfl rfl O2.out rfl HC.out (by omega) HZ.out ?_); intro v2 w2 ho2 hg2; refine of_hid ?_)
      refine Lib.hid ?_
      have L3 := Lib.hid (below_grown (L1.out.alloc (by omega) _) O2.out hg2 HZ.out)
      have O3 : Hid (∃ xs, w2.ownsRow z 3 1 v2 (j + 1) xs) := ⟨_, ho2⟩
      clear ho2 hg2 O2 HC HZ L1
      go_wp2_with fail
      go_roundw
      case rel => exact ⟨j + 1, by go_num, by omega, rfl, O3, L3⟩
      case measure => simp [intOf]; omega
    · obtain rfl : j = 3 := by omega
      obtain ⟨A, c, rfl⟩ : ∃ A c, u5 = .slice A 3 c := by
        rcases o1.2 with ⟨_, e⟩ | ⟨g, cap, cur, e, _⟩
        · cases e
        · exact ⟨_, _, e⟩
      clear O1 o1
      go_wp2_with fail
      go_ret
      exact ⟨_, _, rfl, by rw [HWZ.out]; exact L1.out⟩

set_option maxHeartbeats 800000 in
theorem mendData_none (b m cd c : Nat) (A A2 : Option Addr) (w : World) (hk : m + 3 ≤ 16) :
    Calls Tryz.prog 111 #[.pointer (some ⟨b, 0, none⟩), .slice A (m + 3) cd, .slice none 0 0, .slice A2 0 c] w fun e w' => e = .returned (.tuple #[]) ∧ Below w.heap.size w w' := by
  have hmk : ∀ W : World, (Instr.makeSlice 77 (.int .i64 0) (.int .i64 0)).run Tryz.prog W = .ok (.slice (some ⟨W.heap.size, 0, none⟩) 0 0) (W.alloc (.cells #[] 36)) := fun _ => by kernel_rfl
  go_enter Tryz.func111, Tryz.ntmps111
  go_wp2_with fail
  go_loop [23] (fun x => x = .int .i64 ((0 : Nat) : Int)) (fun _ => 0)
  case atStart => rfl
  case round =>
    obtain rfl := hrel
    go_wp2_with fail
    go_loop [51] (fun x => x = .int .i64 ((0 : Nat) : Int)) (fun _ => 0)
    case atStart => rfl
    case round =>
      obtain rfl := hrel
      go_wp2_with fail
      go_end0
      exact ⟨rfl, (Below.refl _ _).alloc (Nat.le_refl _) _⟩

set_option maxHeartbeats 800000 in
theorem mend_nil (b m cd : Nat) (A : Option Addr) (w : World) (hk : m + 3 ≤ 16) :
    Calls Tryz.prog 99 #[.pointer (some ⟨b, 0, none⟩), .slice A (m + 3) cd, .slice none 0 0] w fun e w' => e = .returned (.tuple #[]) ∧ Below w.heap.size w w' := by
  have e1 : IntKind.i64.wrap (((m + 3 : Nat) : Int) - 3) = (m : Int) := by rw [IntKind.wrap_i64]; omega
  have HT : Hid True := trivial
  go_enter Tryz.func99, Tryz.ntmps99
  go_wp2_with fail
  go_loop [7] (fun x => x = .int .i64 0) (fun _ => 0)
  case atStart => rfl
  case round =>
    obtain rfl := hrel
    clear e1
    go_wp2_with fail
    refine region_anyZ (fun _ : World => True) 13 (by kernel_rfl) ?_
    refine takeG 0 (.move (.tmp 0)) (some 27) none (.pointer (some ⟨b, 0, none⟩)) (by kernel_rfl) (by kernel_rfl) (by kernel_rfl) (fun _ _ _ h => h) (fun o w e hS => exec_move w e (by kernel_rfl)) HT.out ?_
    refine takeG 1 (.move (.tmp 1)) (some 28) none (.slice A (m + 3) cd) (by kernel_rfl) (by kernel_rfl) (by kernel_rfl) (fun _ _ _ h => h) (fun o w e hS => exec_move w e (by kernel_rfl)) HT.out ?_
    refine takeG 2 (.move (.tmp 2)) (some 29) none (.slice none 0 0) (by kernel_rfl) (by kernel_rfl) (by kernel_rfl) (fun _ _ _ h => h) (fun o w e hS => exec_move w e (by kernel_rfl)) HT.out ?_
    refine takeG 3 (.move (.tmp 7)) (some 30) none (.int .i64 0) (by kernel_rfl) (by kernel_rfl) (by kernel_rfl) (fun _ _ _ h => h) (fun o w e hS => exec_move w e (by kernel_rfl)) HT.out ?_
    refine takeG 4 (.slice 22 (.tmp 29) .none (.some (.tmp 30)) .none) (some 31) none (.slice none 0 0) (by kernel_rfl) (by kernel_rfl) (by kernel_rfl) (fun _ _ _ h => h) (fun o w e hS => exec_slice (u := .slice none 0 0) w e (by kernel_rfl) (by kernel_rfl) (by kernel_rfl) (by kernel_rfl) (slice_nil1 _)) HT.out ?_
    refine takeG 5 (.move (.tmp 2)) (some 32) none (.slice none 0 0) (by kernel_rfl) (by kernel_rfl) (by kernel_rfl) (fun _ _ _ h => h) (fun o w e hS => exec_move w e (by kernel_rfl)) HT.out ?_
    refine takeG 6 (.move (.tmp 7)) (some 33) none (.int .i64 0) (by kernel_rfl) (by kernel_rfl) (by kernel_rfl) (fun _ _ _ h => h) (fun o w e hS => exec_move w e (by kernel_rfl)) HT.out ?_
    refine takeG 7 (.slice 22 (.tmp 32) (.some (.tmp 33)) .none .none) (some 34) none (.slice none 0 0) (by kernel_rfl) (by kernel_rfl) (by kernel_rfl) (fun _ _ _ h => h) (fun o w e hS => exec_slice (u := .slice none 0 0) w e (by kernel_rfl) (by kernel_rfl) (by kernel_rfl) (by kernel_rfl) (slice_nil0 _)) HT.out ?_
    refine takeG 8 (.move (.tmp 6)) (some 35) none (.int .i64 (m : Int)) (by kernel_rfl) (by kernel_rfl) (by kernel_rfl) (fun _ _ _ h => h) (fun o w e hS => exec_move w e (by kernel_rfl)) HT.out ?_
    refine takeG 10 (.move (.tmp 7)) (some 37) none (.int .i64 0) (by kernel_rfl) (by kernel_rfl) (by kernel_rfl) (fun _ _ _ h => h) (fun o w e hS => exec_move w e (by kernel_rfl)) HT.out ?_
    refine loneG 9 (.call ⟨.value (.func 112), #[(.tmp 34), (.tmp 35)], #[22, 3]⟩) (some 36) none (by kernel_rfl) (by kernel_rfl) (by kernel_rfl) ?_
    intro o ho hod
    refine wp_callC (f := 112) (args := #[.slice none 0 0, .int .i64 (m : Int)]) (by cases o; cases ho; kernel_rfl) (sound_nil (m : Int) _) ?_
    rintro e w2 ⟨As, cs, rfl, hb2⟩
    refine ⟨.slice As 3 cs, rfl, ?_⟩
    rw [hod]
    clear hod ho
    have L2 := Lib.hid hb2
    refine ⟨fun _ => trivial, ?_⟩
    refine takeG 11 (.slice 22 (.tmp 36) .none (.some (.tmp 37)) .none) (some 38) none (.slice (subA As cs 0) 0 cs) (by kernel_rfl) (by kernel_rfl) (by kernel_rfl) (fun _ _ _ h => h) (fun o w e hS => exec_slice (u := .slice As 3 cs) w e (by kernel_rfl) (by kernel_rfl) (by kernel_rfl) (by kernel_rfl) (slice_toZ As 3 cs 0 0 rfl (by omega) _)) HT.out ?_
    refine loneG 12 (.call ⟨.value (.func 111), #[(.tmp 27), (.tmp 28), (.tmp 31), (.tmp 38)], #[132, 77, 22, 22]⟩) (some 39) none (by kernel_rfl) (by kernel_rfl) (by kernel_rfl) ?_
    intro o ho hod
    refine wp_callC (f := 111) (args := #[.pointer (some ⟨b, 0, none⟩), .slice A (m + 3) cd, .slice none 0 0, .slice (subA As cs 0) 0 cs]) (by cases o; cases ho; kernel_rfl) (mendData_none b m cd cs A (subA As cs 0) _ hk) ?_
    rintro e w3 ⟨rfl, hb3⟩
    refine ⟨.tuple #[], rfl, ?_⟩
    rw [hod]
    clear hod ho
    have L3 := Lib.hid (L2.out.trans (hb3.mono L2.out.size))
    clear hb3 L2
    refine ⟨fun _ => trivial, ?_⟩
    refine AnyZ.done (by kernel_rfl) ?_
    simp only [put_some, put_none, List.setIfInBounds_toArray, List.set_cons_succ, List.set_cons_zero]
    go_wp2_with fail
    go_loop [44] (fun x => x = .int .i64 ((0 : Nat) : Int)) (fun _ => 0)
    case atStart => rfl
    case round =>
      obtain rfl := hrel
      go_wp2_with fail
      go_end0
      exact ⟨rfl, (below_drew (Below.refl w.heap.size w)).trans L3.out⟩

set_option maxHeartbeats 1600000 in
theorem rebuild_nil (k m cd B : Nat) (A : Option Addr) (ra : Nat → Option Addr) (rl rc : Nat → Nat) (x : Nat → Nat → Nat) (w : World) (hr : RdR w B A k ra rl rc x) (hB : B ≤ w.heap.size) (hm : k = m + 3) (hm0 : 0 < m) (hk : k ≤ 16) (ha : Alike k rl) :
    Calls Tryz.prog 78 #[.slice A k cd, .slice none 0 0] w fun e w' => ∃ v H R, e = .returned (.tuple #[v, .int .i64 0]) ∧ Cols w' w.heap.size v k (rl 0) H R x ∧ Below w.heap.size w w' := by
  subst hm
  have HA := Lib.hid ha
  have HR := Lib.hid hr
  have hz := build_field
  have HZ : Hid (RdZ w 0 none 0 (fun _ => 0)) := fun i hi => absurd hi (by omega)
  have HRI : Hid (Rise 0 (fun _ => 0) ((m + 3 : Nat) : Int)) := fun i hi => absurd hi (by omega)
  have HF : Hid (First 0 (fun _ => 0) 0) := ⟨Nat.le_refl _, fun j hj => absurd hj (by omega), fun h => absurd h (by omega)⟩
  have HAB : Hid (AlikeB (m + 3) 0 (rl 0) (fun _ => 0) rl) := ⟨ha.1, ha.2.1, fun i hi _ => ha.2.2 i hi⟩
  have HC0 : Hid (0 ≤ maxLen) := Nat.zero_le _
  clear hr ha
  go_enter Tryz.func78, Tryz.ntmps78
  go_wp2_with fail
  refine (fault_ok (m + 3) cd B A ra rl rc x _ HR.out (by omega) HA.out).mono ?_
  rintro e w1 ⟨rfl, rfl⟩
  go_wp2_with fail
  refine (whole_any (m + 3) cd B 0 0 0 0 A none ra rl rc x (fun _ => 0) _ HR.out HZ.out hB (by omega) (by omega) HC0.out HRI.out HF.out (by omega) hk (by omega) HAB.out).mono ?_
  rintro e w2 ⟨rfl, H2⟩
  have C2 := Lib.hid (H2.cols hk HA.out.2.1)
  have L2 := Lib.hid H2.below
  have HX : Hid (∀ j, goodX 0 (fun _ => 0) x j = x j) := fun j => by unfold goodX; rw [isB_false (fun j hj => absurd hj (by omega))]; rfl
  clear H2 HZ HRI HF HAB HC0
  go_wp2_with fail
  refine (mend_nil w2.heap.size m (m + 3) (some ⟨w.heap.size, 0, none⟩) _ hk).mono ?_
  rintro e w3 ⟨rfl, hb3⟩
  have B2 : Below w2.heap.size w2 (w2.alloc (.cells (fcells 0 0 0) 147)) := (Below.refl _ _).alloc (Nat.le_refl _) _
  have HB3 := Lib.hid (B2.trans (hb3.mono B2.size))
  clear hb3 B2
  go_wp2_with fail
  go_ret2
  have h := C2.out.below HB3.out (Nat.le_refl _)
  rw [show goodX 0 (fun _ => 0) x = x from funext HX.out] at h
  exact ⟨.slice (some ⟨w.heap.size, 0, none⟩) (m + 3) (m + 3), _, _, rfl, h, L2.out.trans (HB3.out.mono L2.out.size)⟩
set_option maxHeartbeats 800000 in
theorem rebuild_err (k cd m c : Nat) (A A2 : Option Addr) (e : Int) (w : World) (he : e ≠ 0) (hf : Calls Tryz.prog 97 #[.slice A k cd, .slice A2 m c] w fun e' w' => e' = .returned (.int .i64 e) ∧ w = w') :
    Calls Tryz.prog 78 #[.slice A k cd, .slice A2 m c] w fun e' w' => e' = .returned (.tuple #[.slice none 0 0, .int .i64 e]) ∧ w = w' := by
  have HF := Lib.hid hf
  have hne : (e != 0) = true := by rw [bne_iff_ne]; exact he
  clear hf he
  go_enter Tryz.func78, Tryz.ntmps78
  go_wp2_with fail
  refine HF.out.mono ?_
  rintro e' w1 ⟨rfl, rfl⟩
  go_wp2_with fail
  go_ret2
  exact ⟨rfl, rfl⟩
end Go.Proofs.YtlhjpceaookanaaGreatDoor
namespace Go.Proofs.YtlhjpceaookanaaGreatDoor
open Go Go.RowKit
set_option maxRecDepth 100000
set_option linter.unusedVariables false

/-- the parities below i that aren't among the bad columns -/
def sndL (m : Nat) (b : Nat → Int) (k i : Nat) : List Nat := (List.range i).filter fun j => !isB m b (k + j)
theorem sndL_bad {m k i : Nat} {b : Nat → Int} (h : isB m b (k + i) = true) : sndL m b k (i + 1) = sndL m b k i := by
  unfold sndL
  rw [List.range_succ, List.filter_append]
  simp [h]
theorem sndL_good {m k i : Nat} {b : Nat → Int} (h : isB m b (k + i) = false) : sndL m b k (i + 1) = sndL m b k i ++ [i] := by
  unfold sndL
  rw [List.range_succ, List.filter_append]
  simp [h]
theorem sndL_le (m : Nat) (b : Nat → Int) (k i : Nat) : (sndL m b k i).length ≤ i := by
  unfold sndL
  exact Nat.le_trans (List.length_filter_le _ _) (by simp)
/-- the numbers as cells -/
def natL (l : List Nat) : List Value := l.map fun (j : Nat) => Value.int .i64 ((j : Nat) : Int)
theorem natL_snoc (l : List Nat) (i : Nat) : natL (l ++ [i]) = natL l ++ [.int .i64 (i : Int)] := by simp [natL]

set_option maxHeartbeats 1600000 in
theorem sound_any (k m c B : Nat) (A : Option Addr) (b : Nat → Int) (N : Int) (w : World) (hz : RdZ w B A m b) (hB : B ≤ w.heap.size) (hmc : m ≤ c) (hcm : c ≤ maxLen) (hri : Rise m b N) (hlo : ∀ i, i < m → (k : Int) ≤ b i) (hk : k ≤ 16) (hm : m ≤ 16) :
    Calls Tryz.prog 112 #[.slice A m c, .int .i64 (k : Int)] w fun e w' => ∃ v, e = .returned v ∧ w'.ownsRow w.heap.size 3 1 v (sndL m b k 3).length (natL (sndL m b k 3)) ∧ Below w.heap.size w w' := by
  have hmk : ∀ W : World, (Instr.makeSlice 22 (.int .i64 0) (.int .i64 3)).run Tryz.prog W = .ok (.slice (some ⟨W.heap.size, 0, none⟩) 0 3) (W.alloc (.cells #[.int .i64 0, .int .i64 0, .int .i64 0] 3)) := fun _ => by kernel_rfl
  have O0 : Hid ((w.alloc (.cells #[.int .i64 0, .int .i64 0, .int .i64 0] 3)).ownsRow w.heap.size 3 1 (.slice (some ⟨w.heap.size, 0, none⟩) 0 3) (sndL m b k 0).length (natL (sndL m b k 0))) :=
    Lib.hid ⟨rfl, .inr ⟨w.heap.size, 3, _, rfl, Nat.le_refl _, Blk.new w 3 _, Nat.zero_le _, by simp [maxLen], rfl, rfl⟩⟩
  have L0 : Hid (Below w.heap.size w (w.alloc (.cells #[.int .i64 0, .int .i64 0, .int .i64 0] 3))) := Lib.hid ((Below.refl _ _).alloc (Nat.le_refl _) _)
  have T0 : Hid (Left (w.alloc (.cells #[.int .i64 0, .int .i64 0, .int .i64 0] 3)) B (.slice A m c) m 0 m (k + 0) b) :=
    Lib.hid ⟨by omega, ⟨A, c, rfl, hmc, hcm, fun j hj => by
      show ∃ b_1 o, A = some ⟨b_1, o, none⟩ ∧ b_1 < B ∧ World.cell? _ ⟨b_1, o + j, none⟩ = some (.int .i64 (b (0 + j)))
      rw [Nat.zero_add]; exact hz.below L0.out hB j hj⟩, fun j hj => absurd hj (by omega), fun j _ hj => by have := hlo j hj; omega⟩
  have HRI := Lib.hid hri
  have HB := Lib.hid hB
  clear hz hri hlo hB
  go_enter Tryz.func112, Tryz.ntmps112
  go_wp2_with fail
  clear hmk
  generalize hwz : w.heap.size = z at *
  have HWZ := Lib.hid hwz
  clear hwz
  go_loopw [0, 5, 8] (fun y v x wr => ∃ j t q : Nat, x = .int .i64 j ∧ j ≤ 3 ∧ Hid (Left wr B y m t q (k + j) b) ∧ Hid (wr.ownsRow z 3 1 v (sndL m b k j).length (natL (sndL m b k j))) ∧ Hid (Below z w wr)) (fun _ _ x _ => 3 - (intOf x).toNat)
  case atStart => exact ⟨0, 0, m, rfl, by omega, T0, O0, L0⟩
  case round =>
    clear O0 L0 T0
    obtain ⟨j, t, q, rfl, hj, T1, O1, L1⟩ := hrel
    have s1 := L1.out.size
    rw [HWZ.out] at s1
    by_cases hlt : j < 3
    · have e1 : IntKind.i64.wrap ((k : Int) + (j : Int)) = ((k + j : Nat) : Int) := by rw [IntKind.wrap_i64]; omega
      obtain ⟨A', c', rfl, hqc, hcm', hz'⟩ := T1.out.row
      unfold maxLen at hcm'
      have hbl : B ≤ wr.heap.size := Nat.le_trans HB.out s1
      -- one more that is sound
      have O2 : Hid ((wr.alloc (.cells #[.int .i64 (j : Int)] 3)).ownsRow z 3 1 u5 (sndL m b k j).length (natL (sndL m b k j))) := Lib.hid (O1.out.alloc _)
      have HC : Hid ((wr.alloc (.cells #[.int .i64 (j : Int)] 3)).cell? ⟨wr.heap.size, 0, none⟩ = some (.int .i64 (j : Int))) := by
        show _ = _
        rw [(Blk.new wr _ _).cell]
        rfl
      have hzz : z ≤ (wr.alloc (.cells #[.int .i64 (j : Int)] 3)).heap.size := by simp; omega
      have HZ := Lib.hid hzz
      have hsl := sndL_le m b k j
      clear hzz
      by_cases hq : q = 0
      · subst hq
        have hnb := isB_false (T1.out.not_bad (.inl rfl) HRI.out)
        have HNB := Lib.hid (sndL_good hnb)
        have T2 := Lib.hid (T1.out.keep (.inl rfl) HRI.out)
        clear hz' hnb T1 O1
        go_wp2_with ((with_reducible refine wpList_pushZ rfl (.tmp 25) (.tmp 27) rfl rfl O2.out rfl HC.out (by omega) HZ.out ?_); intro v2 w2 ho2 hg2; refine of_hid ?_)
        refine Lib.hid ?_
        have L3 := Lib.hid (below_grown (L1.out.alloc (by omega) _) O2.out hg2 HZ.out)
        have O3 : Hid (w2.ownsRow z 3 1 v2 (sndL m b k (j + 1)).length (natL (sndL m b k (j + 1)))) := by rw [HNB.out, natL_snoc, List.length_append]; exact ho2
        have T3 := Lib.hid (T2.out.below (below_grown (show Below z wr _ from (Below.refl z wr).alloc (by omega) _) O2.out hg2 HZ.out) HB.out)
        clear ho2 hg2 O2 HC HZ L1 T2
        go_wp2_with fail
        go_roundw
        case rel => exact ⟨j + 1, t, 0, by go_num, by omega, T3, O3, L3⟩
        case measure => simp [intOf]; omega
      · obtain ⟨q, rfl⟩ : ∃ q', q = q' + 1 := ⟨q - 1, by omega⟩
        obtain ⟨bb, ob, rfl, hbb, hcb⟩ := hz' 0 (by omega)
        have hcb : wr.cell? ⟨bb, ob, none⟩ = some (.int .i64 (b t)) := hcb
        by_cases hb : b t = ((k + j : Nat) : Int)
        · have hz2 : RdZ wr B (some ⟨bb, ob + 1, none⟩) q (fun j => b (t + 1 + j)) := fun j hj => by
            obtain ⟨b', o', e, h1, h2⟩ := hz' (j + 1) (by omega)
            injection e with e
            injection e with e1 e2
            subst e1; subst e2
            refine ⟨bb, ob + 1, rfl, h1, ?_⟩
            rw [show ob + 1 + j = ob + (j + 1) by omega]
            show _ = some (Value.int .i64 (b (t + 1 + j)))
            rw [show t + 1 + j = t + (j + 1) by omega]
            exact h2
          have hz3 : q = 0 → RdZ wr B (some ⟨bb, ob, none⟩) q (fun j => b (t + 1 + j)) := fun e j hj => absurd hj (by omega)
          have hsum := T1.out.sum
          rw [hb] at hcb
          have HZ2 := Lib.hid hz2
          have HZ3 := Lib.hid hz3
          have HBT := Lib.hid hb
          have HL2 := Lib.hid (fun A c h1 h2 h3 => Lib.hid (T1.out.next (A := A) (c := c) HRI.out HBT.out h1 h2 h3))
          have O3 : Hid (wr.ownsRow z 3 1 u5 (sndL m b k (j + 1)).length (natL (sndL m b k (j + 1)))) := by rw [sndL_bad (isB_true (by omega) hb)]; exact O1
          clear hz' hz2 hz3 hbb hb T1 O1 O2 HC HZ hsum
          by_cases hc1 : c' = 1
          · subst hc1
            obtain rfl : q = 0 := by omega
            go_wp2_with fail
            go_roundw
            case rel => exact ⟨j + 1, t + 1, 0, by go_num, by omega, HL2.out _ _ (by omega) (by unfold maxLen; omega) (HZ3.out rfl), O3, L1⟩
            case measure => simp [intOf]; omega
          · have hc2 : 1 < c' := by omega
            go_wp2_with fail
            go_roundw
            case rel => exact ⟨j + 1, t + 1, q, by go_num, by omega, HL2.out _ _ (by omega) (by unfold maxLen; omega) HZ2.out, O3, L1⟩
            case measure => simp [intOf]; omega
        · have hne : (b t == (k : Int) + (j : Int)) = false := by rw [beq_eq_false_iff_ne]; omega
          have hnb := isB_false (T1.out.not_bad (.inr hb) HRI.out)
          have HNB := Lib.hid (sndL_good hnb)
          have T2 := Lib.hid (T1.out.keep (.inr hb) HRI.out)
          clear hz' hnb hbb hb T1 O1
          generalize b t = bt at *
          go_wp2_with ((with_reducible refine wpList_pushZ rfl (.tmp 25) (.tmp 27) rfl rfl O2.out rfl HC.out (by omega) HZ.out ?_); intro v2 w2 ho2 hg2; refine of_hid ?_)
          refine Lib.hid ?_
          have L3 := Lib.hid (below_grown (L1.out.alloc (by omega) _) O2.out hg2 HZ.out)
          have O3 : Hid (w2.ownsRow z 3 1 v2 (sndL m b k (j + 1)).length (natL (sndL m b k (j + 1)))) := by rw [HNB.out, natL_snoc, List.length_append]; exact ho2
          have T3 := Lib.hid (T2.out.below (below_grown (show Below z wr _ from (Below.refl z wr).alloc (by omega) _) O2.out hg2 HZ.out) HB.out)
          clear ho2 hg2 O2 HC HZ L1 T2
          go_wp2_with fail
          go_roundw
          case rel => exact ⟨j + 1, t, q + 1, by go_num, by omega, T3, O3, L3⟩
          case measure => simp [intOf]; omega
    · obtain rfl : j = 3 := by omega
      go_wp2_with fail
      go_ret
      exact ⟨_, rfl, by rw [HWZ.out]; exact O1.out, by rw [HWZ.out]; exact L1.out⟩
end Go.Proofs.YtlhjpceaookanaaGreatDoor
