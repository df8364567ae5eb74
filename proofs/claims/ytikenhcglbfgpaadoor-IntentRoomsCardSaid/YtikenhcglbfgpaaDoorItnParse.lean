/-
  'intent.parse' by a contract. Conditions: the sums' table is laid; the numbers are ints.
-/
import Derived.Test.YtikenhcglbfgpaaDoorItnSpell
import Derived.Test.YtikenhcglbfgpaaDoorPackBothM
namespace Go.Proofs.YtikenhcglbfgpaaDoor
open Go Go.RowKit refRack
set_option maxRecDepth 100000
set_option linter.unusedVariables false
namespace Itn
theorem isize_piece : (Tryd.prog.info? 59).map (·.size) = some 2 := by kernel_rfl
theorem number_it (n : Int) (w : World) : Calls Tryd.prog 36 #[.int .i64 n] w fun e w' => e = .returned (.agg (itA ⟨1, n, ⟨#[]⟩⟩)) ∧ Below w.heap.size w w' := number_at n w
theorem text_it (s : ByteArray) (w : World) : Calls Tryd.prog 37 #[.string s] w fun e w' => e = .returned (.agg (itA ⟨2, 0, s⟩)) ∧ Below w.heap.size w w' := text_at s w
theorem tr_ {w y z : World} (h : Below w.heap.size w y) (k : Below y.heap.size y z) : Below w.heap.size w z := h.trans (k.mono h.size)
theorem ne_true {a : Int} (h : a ≠ 0) (W : World) : (binOp .neq 26 (.int .i64 a) (.int .i64 0)).run Tryd.prog W = .ok (.bool true) W := by
  have e : (binOp .neq 26 (.int .i64 a) (.int .i64 0)).run Tryd.prog W = .ok (.bool (!(a == 0))) W := by kernel_rfl
  rw [e]
  simp [h]
theorem ne_zeroE {a : Int} (h : a = 0) (W : World) : (binOp .neq 26 (.int .i64 a) (.int .i64 0)).run Tryd.prog W = .ok (.bool false) W := by
  subst h
  kernel_rfl
theorem neq_intF {n : Nat} (h : n = 5) (W : World) : (binOp .neq 3 (.int .i64 (n : Int)) (.int .i64 5)).run Tryd.prog W = .ok (.bool false) W := by
  subst h
  kernel_rfl
theorem exec_bld2 {P : Program} {a : Act} {o : Oper} {ty : TypeId} {i j : Nat} {x y : Operand} {u0 u1 r : Value} (w : World) (e : o.op = .build ty #[(i, x), (j, y)]) (hx : a.eval x = u0) (hy : a.eval y = u1)
    (hl : (Instr.build ty #[(i, u0), (j, u1)]).run P w = .ok r w) : (execOp a.eval o).run P w = .ok (.value r) w := by
  unfold execOp; simp only [e, List.map_toArray, List.map_cons, List.map_nil, hx, hy, hl, Sem.run_bind, Sem.run_pure, Result.andThen_ok]
theorem ne_zero (W : World) : (binOp .neq 26 (.int .i64 0) (.int .i64 0)).run Tryd.prog W = .ok (.bool false) W := by kernel_rfl
theorem neq_intT {n : Nat} (h : n ≠ 5) (W : World) : (binOp .neq 3 (.int .i64 (n : Int)) (.int .i64 5)).run Tryd.prog W = .ok (.bool true) W := by
  have e : (binOp .neq 3 (.int .i64 (n : Int)) (.int .i64 5)).run Tryd.prog W = .ok (.bool (!((n : Int) == 5))) W := by kernel_rfl
  rw [e]
  have h2 : ¬ (n : Int) = 5 := by omega
  simp [h2]
theorem gtr_T {n : Nat} (h : 56 < n) (W : World) : (binOp .gtr 3 (.int .i64 (n : Int)) (.int .i64 56)).run Tryd.prog W = .ok (.bool true) W := by
  have e : (binOp .gtr 3 (.int .i64 (n : Int)) (.int .i64 56)).run Tryd.prog W = .ok (.bool (decide ((56 : Int) < (n : Int)))) W := by kernel_rfl
  rw [e]
  have h2 : (56 : Int) < (n : Int) := by omega
  simp [h2]
theorem gtr_F {n : Nat} (h : n ≤ 56) (W : World) : (binOp .gtr 3 (.int .i64 (n : Int)) (.int .i64 56)).run Tryd.prog W = .ok (.bool false) W := by
  have e : (binOp .gtr 3 (.int .i64 (n : Int)) (.int .i64 56)).run Tryd.prog W = .ok (.bool (decide ((56 : Int) < (n : Int)))) W := by kernel_rfl
  rw [e]
  have h2 : ¬ (56 : Int) < (n : Int) := by omega
  simp [h2]
theorem neq_it {x y : K.It} (h : x = y) (W : World) : (binOp .neq 81 (.agg (itA x)) (.agg (itA y))).run Tryd.prog W = .ok (.bool false) W := by
  subst h
  exact neq_same x W
theorem eql_it {x y : K.It} (h : x = y) (W : World) : (binOp .eql 81 (.agg (itA x)) (.agg (itA y))).run Tryd.prog W = .ok (.bool true) W := by
  subst h
  unfold itA
  simp [go_sem, run_eql_struct]
theorem eql_no {x y : K.It} (h : x ≠ y) (W : World) : (binOp .eql 81 (.agg (itA x)) (.agg (itA y))).run Tryd.prog W = .ok (.bool false) W := by
  obtain ⟨xk, xn, xs⟩ := x
  obtain ⟨yk, yn, ys⟩ := y
  unfold itA
  dsimp only
  by_cases h1 : xk = yk
  · subst h1
    by_cases h2 : xn = yn
    · subst h2
      have h3 : xs.toList ≠ ys.toList := fun e => h (by rw [bytes_eq e])
      simp [go_sem, run_eql_struct, h3]
    · simp [go_sem, run_eql_struct, h2]
  · simp [go_sem, run_eql_struct, h1]
theorem idx5 (b o c i : Nat) (h : i < 5) (w : World) : (Instr.indexAt 84 (.slice (some ⟨b, o, none⟩) 5 c) (.int .i64 (i : Int))).run Tryd.prog w = .ok (.pointer (some ⟨b, o + i * 3, none⟩)) w := by
  have hq : (Tryd.prog.info? 81).map (·.size) = some 3 := by kernel_rfl
  cases hi : Tryd.prog.info? 81 with
  | none => simp [hi] at hq
  | some inf =>
    have hs : inf.size = 3 := by simpa [hi] using hq
    have h2 : (i : Int) < (5 : Int) := by omega
    unfold Instr.indexAt asIntOf
    simp [run_underlying Tryd.underlying84, Sem.run_bind, sizeOf, typeInfo, hi, hs, h, add_plain]
theorem idxA {A : Option Addr} {n b o c : Nat} (hA : A = some ⟨b, o, none⟩) (hn : n = 5) (i : Nat) (h : i < 5) (w : World) : (Instr.indexAt 84 (.slice A n c) (.int .i64 (i : Int))).run Tryd.prog w = .ok (.pointer (some ⟨b, o + i * 3, none⟩)) w := by
  subst hA hn
  exact idx5 b o c i h w
def PrsU (L : List Nat) (b k : Int) (e : Ending) : Prop := (∃ p, Is L b k p ∧ e = .returned (.tuple #[.agg #[.bool p.l, .string p.s], .bool true])) ∨ ((∀ p, ¬ Is L b k p) ∧ e = .returned (.tuple #[.agg #[.bool false, .string ⟨#[]⟩], .bool false]))
def Gd (L : List Nat) (b k : Int) (x3 x4 : K.It) : Prop := unsE L = 0 ∧ unsL L = [⟨1, 55, ⟨#[]⟩⟩, ⟨1, b, ⟨#[]⟩⟩, ⟨1, k, ⟨#[]⟩⟩, x3, x4]
theorem Gd.of {L : List Nat} {b k : Int} {p : Pc} (h : Is L b k p) : Gd L b k ⟨1, bit p.l, ⟨#[]⟩⟩ ⟨2, 0, p.s⟩ := ⟨h.back.2, h.back.1⟩
theorem Gd.one {L : List Nat} {b k : Int} {x3 x4 y3 y4 : K.It} (h : Gd L b k x3 x4) (h' : Gd L b k y3 y4) : x3 = y3 ∧ x4 = y4 := by
  have e := h.2.symm.trans h'.2
  injection e with _ e
  injection e with _ e
  injection e with _ e
  injection e with e3 e
  injection e with e4 _
  exact ⟨e3, e4⟩
set_option maxHeartbeats 6400000 in
theorem parse_at (A : Option Addr) (L : List Nat) (c B : Nat) (w : World) (b k : Int) (hb : Z b) (hk : Z k) (hx : RdB w B A L.length (lst L)) (hB : B ≤ w.heap.size) (hL : ∀ x ∈ L, x < 256) (hlc : L.length ≤ c) (hcm : c ≤ maxLen) (hl : Laid w) :
    Calls Tryd.prog 34 #[.slice A L.length c, .int .i64 b, .int .i64 k] w fun e w' => PrsU L b k e ∧ Below w.heap.size w w' := by
  have hpos := hl.pos
  obtain ⟨W, hW⟩ : ∃ W, W = w.alloc (.cells #[.bool false, .string ⟨#[]⟩] 59) := ⟨_, rfl⟩
  obtain ⟨g6, hg6⟩ : ∃ g6, g6 = w.heap.size := ⟨_, rfl⟩
  have L0 : Hid (Below w.heap.size w W) := Lib.hid (by rw [hW]; exact (Below.refl _ _).alloc (Nat.le_refl _) _)
  have X0 : Hid (Blk W g6 59 #[.bool false, .string ⟨#[]⟩]) := Lib.hid (by rw [hW, hg6]; exact Blk.new _ _ _)
  have HX0 := Lib.hid (⟨hW, hg6⟩ : _ ∧ _)
  have HG6 : Hid (w.heap.size ≤ g6) := Lib.hid (by rw [hg6]; exact Nat.le_refl _)
  have HU := Lib.hid (unsector_any A L c B W (hx.below L0.out hB) (Nat.le_trans hB L0.out.size) hL hlc hcm (hl.below L0.out hpos))
  have HL := Lib.hid hL
  have HZ := Lib.hid (⟨hb, hk⟩ : _ ∧ _)
  clear hx hl hcm hL hW hg6 hb hk
  go_enter Tryd.func34, Tryd.ntmps34
  go_upto_region 1 with (fail)
  rw [← HX0.out.1, ← HX0.out.2]
  clear HX0
  go_wp2_with fail
  refine HU.out.mono ?_
  rintro e w1 ⟨⟨A1, c1, rfl, r1, lc1, cm1⟩, hl1⟩
  have L1 := Lib.hid (L0.out.trans (hl1.mono L0.out.size))
  have X1 := Lib.hid (X0.out.below hl1 X0.out.lt)
  clear hl1 X0 L0 HU
  unfold maxLen at cm1
  obtain ⟨ue, hue⟩ : ∃ ue, ue = unsE L := ⟨_, rfl⟩
  obtain ⟨n1, hn1⟩ : ∃ n1, n1 = (unsL L).length := ⟨_, rfl⟩
  rw [← hue, ← hn1]
  rw [← hn1] at lc1
  have HUE := Lib.hid hue
  have HN1 := Lib.hid hn1
  clear hue hn1
  go_upto_region 2 with (fail)
  have HS0 : Hid (Below w1.heap.size w1 w1.drew) := Lib.hid (Below.refl _ _).drew
  go_cut [44] from 15 to 44 (fun s wx => ∃ bb : Bool, s = .bool bb ∧ Hid ((bb = true ∧ ∀ x3 x4, ¬ Gd L b k x3 x4) ∨ (bb = false ∧ ∃ x3 x4, Gd L b k x3 x4)) ∧ Hid (Below w1.heap.size w1 wx))
  case first =>
    by_cases hE : ue = 0
    rotate_left
    · have HNG : Hid (∀ x3 x4, ¬ Gd L b k x3 x4) := Lib.hid fun x3 x4 h => hE (by rw [HUE.out]; exact h.1)
      refine region_anyZ (fun W => Below w1.heap.size w1 W) 30 (by kernel_rfl) ?_
      refine takeG 0 (.move (.tmp 9)) (some 15) none (.int .i64 ue) (by kernel_rfl) (by kernel_rfl) (by kernel_rfl) (fun _ _ _ h => h) (fun o' wq e hS => exec_move wq e (by kernel_rfl)) HS0.out ?_
      refine takeG 1 (.binOp .neq 26 (.tmp 15) (.const (.int .i64 0)) 26) (some 16) none (.bool true) (by kernel_rfl) (by kernel_rfl) (by kernel_rfl) (fun _ _ _ h => h) (fun o' wq e hS => exec_bin (u1 := .int .i64 ue) (u2 := (.int .i64 0)) wq e (by kernel_rfl) (by kernel_rfl) (eqG_int ..) (ne_true hE _)) HS0.out ?_
      refine takeG 2 (.move (.tmp 16)) (some 17) none (.bool true) (by kernel_rfl) (by kernel_rfl) (by kernel_rfl) (fun _ _ _ h => h) (fun o' wq e hS => exec_move wq e (by kernel_rfl)) HS0.out ?_
      refine takeSkip 3 (.move (.tmp 8)) (some 18) (some (2, false)) (by kernel_rfl) (by kernel_rfl) (by kernel_rfl) (fun _ _ _ h => h) HS0.out ?_
      refine takeSkip 4 (.call ⟨.builtin .len, #[(.tmp 18)], #[84]⟩) (some 19) (some (2, false)) (by kernel_rfl) (by kernel_rfl) (by kernel_rfl) (fun _ _ _ h => h) HS0.out ?_
      refine takeSkip 5 (.binOp .neq 3 (.tmp 19) (.const (.int .i64 5)) 3) (some 20) (some (2, false)) (by kernel_rfl) (by kernel_rfl) (by kernel_rfl) (fun _ _ _ h => h) HS0.out ?_
      refine takeG 6 (.pick (.tmp 17) (.const (Value.bool true)) (.tmp 20)) (some 21) none (.bool true) (by kernel_rfl) (by kernel_rfl) (by kernel_rfl) (fun _ _ _ h => h) (fun o' wq e hS => exec_pick (b := true) wq e (by kernel_rfl) (by kernel_rfl)) HS0.out ?_
      refine takeG 7 (.move (.tmp 21)) (some 22) none (.bool true) (by kernel_rfl) (by kernel_rfl) (by kernel_rfl) (fun _ _ _ h => h) (fun o' wq e hS => exec_move wq e (by kernel_rfl)) HS0.out ?_
      refine takeSkip 8 (.move (.tmp 8)) (some 23) (some (7, false)) (by kernel_rfl) (by kernel_rfl) (by kernel_rfl) (fun _ _ _ h => h) HS0.out ?_
      refine takeSkip 9 (.indexAddr 84 (.tmp 23) (.const (.int .i64 0))) (some 24) (some (7, false)) (by kernel_rfl) (by kernel_rfl) (by kernel_rfl) (fun _ _ _ h => h) HS0.out ?_
      refine takeSkip 10 (.load 81 (.tmp 24)) (some 25) (some (7, false)) (by kernel_rfl) (by kernel_rfl) (by kernel_rfl) (fun _ _ _ h => h) HS0.out ?_
      refine takeSkip 11 (.call ⟨.value (.func 36), #[(.const (.int .i64 55))], #[3]⟩) (some 26) (some (7, false)) (by kernel_rfl) (by kernel_rfl) (by kernel_rfl) (fun _ _ _ h => h) HS0.out ?_
      refine takeSkip 12 (.binOp .neq 81 (.tmp 25) (.tmp 26) 81) (some 27) (some (7, false)) (by kernel_rfl) (by kernel_rfl) (by kernel_rfl) (fun _ _ _ h => h) HS0.out ?_
      refine takeG 13 (.pick (.tmp 22) (.const (Value.bool true)) (.tmp 27)) (some 28) none (.bool true) (by kernel_rfl) (by kernel_rfl) (by kernel_rfl) (fun _ _ _ h => h) (fun o' wq e hS => exec_pick (b := true) wq e (by kernel_rfl) (by kernel_rfl)) HS0.out ?_
      refine takeG 14 (.move (.tmp 28)) (some 29) none (.bool true) (by kernel_rfl) (by kernel_rfl) (by kernel_rfl) (fun _ _ _ h => h) (fun o' wq e hS => exec_move wq e (by kernel_rfl)) HS0.out ?_
      refine takeSkip 15 (.move (.tmp 8)) (some 30) (some (14, false)) (by kernel_rfl) (by kernel_rfl) (by kernel_rfl) (fun _ _ _ h => h) HS0.out ?_
      refine takeSkip 16 (.indexAddr 84 (.tmp 30) (.const (.int .i64 1))) (some 31) (some (14, false)) (by kernel_rfl) (by kernel_rfl) (by kernel_rfl) (fun _ _ _ h => h) HS0.out ?_
      refine takeSkip 17 (.load 81 (.tmp 31)) (some 32) (some (14, false)) (by kernel_rfl) (by kernel_rfl) (by kernel_rfl) (fun _ _ _ h => h) HS0.out ?_
      refine takeSkip 18 (.move (.tmp 1)) (some 33) (some (14, false)) (by kernel_rfl) (by kernel_rfl) (by kernel_rfl) (fun _ _ _ h => h) HS0.out ?_
      refine takeSkip 19 (.call ⟨.value (.func 36), #[(.tmp 33)], #[3]⟩) (some 34) (some (14, false)) (by kernel_rfl) (by kernel_rfl) (by kernel_rfl) (fun _ _ _ h => h) HS0.out ?_
      refine takeSkip 20 (.binOp .neq 81 (.tmp 32) (.tmp 34) 81) (some 35) (some (14, false)) (by kernel_rfl) (by kernel_rfl) (by kernel_rfl) (fun _ _ _ h => h) HS0.out ?_
      refine takeG 21 (.pick (.tmp 29) (.const (Value.bool true)) (.tmp 35)) (some 36) none (.bool true) (by kernel_rfl) (by kernel_rfl) (by kernel_rfl) (fun _ _ _ h => h) (fun o' wq e hS => exec_pick (b := true) wq e (by kernel_rfl) (by kernel_rfl)) HS0.out ?_
      refine takeG 22 (.move (.tmp 36)) (some 37) none (.bool true) (by kernel_rfl) (by kernel_rfl) (by kernel_rfl) (fun _ _ _ h => h) (fun o' wq e hS => exec_move wq e (by kernel_rfl)) HS0.out ?_
      refine takeSkip 23 (.move (.tmp 8)) (some 38) (some (22, false)) (by kernel_rfl) (by kernel_rfl) (by kernel_rfl) (fun _ _ _ h => h) HS0.out ?_
      refine takeSkip 24 (.indexAddr 84 (.tmp 38) (.const (.int .i64 2))) (some 39) (some (22, false)) (by kernel_rfl) (by kernel_rfl) (by kernel_rfl) (fun _ _ _ h => h) HS0.out ?_
      refine takeSkip 25 (.load 81 (.tmp 39)) (some 40) (some (22, false)) (by kernel_rfl) (by kernel_rfl) (by kernel_rfl) (fun _ _ _ h => h) HS0.out ?_
      refine takeSkip 26 (.move (.tmp 2)) (some 41) (some (22, false)) (by kernel_rfl) (by kernel_rfl) (by kernel_rfl) (fun _ _ _ h => h) HS0.out ?_
      refine takeSkip 27 (.call ⟨.value (.func 36), #[(.tmp 41)], #[3]⟩) (some 42) (some (22, false)) (by kernel_rfl) (by kernel_rfl) (by kernel_rfl) (fun _ _ _ h => h) HS0.out ?_
      refine takeSkip 28 (.binOp .neq 81 (.tmp 40) (.tmp 42) 81) (some 43) (some (22, false)) (by kernel_rfl) (by kernel_rfl) (by kernel_rfl) (fun _ _ _ h => h) HS0.out ?_
      refine lastS 29 (.pick (.tmp 37) (.const (Value.bool true)) (.tmp 43)) (some 44) (.bool true) (by kernel_rfl) (by kernel_rfl) (by kernel_rfl) HS0.out (fun o' e => exec_pick (b := true) _ e (by kernel_rfl) (by kernel_rfl)) ?_
      simp only [put_some, put_none, List.setIfInBounds_toArray, List.set_cons_succ, List.set_cons_zero]
      have HB0 : Hid (Below w1.heap.size w1 w1.drew) := HS0
      clear HS0
      go_wp2_with fail
      go_meet
      exact ⟨true, rfl, Lib.hid (.inl ⟨rfl, HNG.out⟩), HB0⟩
    by_cases h5 : n1 = 5
    rotate_left
    · have HNG : Hid (∀ x3 x4, ¬ Gd L b k x3 x4) := Lib.hid fun x3 x4 h => h5 (by rw [HN1.out, h.2]; rfl)
      refine region_anyZ (fun W => Below w1.heap.size w1 W) 30 (by kernel_rfl) ?_
      refine takeG 0 (.move (.tmp 9)) (some 15) none (.int .i64 ue) (by kernel_rfl) (by kernel_rfl) (by kernel_rfl) (fun _ _ _ h => h) (fun o' wq e hS => exec_move wq e (by kernel_rfl)) HS0.out ?_
      refine takeG 1 (.binOp .neq 26 (.tmp 15) (.const (.int .i64 0)) 26) (some 16) none (.bool false) (by kernel_rfl) (by kernel_rfl) (by kernel_rfl) (fun _ _ _ h => h) (fun o' wq e hS => exec_bin (u1 := .int .i64 ue) (u2 := (.int .i64 0)) wq e (by kernel_rfl) (by kernel_rfl) (eqG_int ..) (ne_zeroE hE _)) HS0.out ?_
      refine takeG 2 (.move (.tmp 16)) (some 17) none (.bool false) (by kernel_rfl) (by kernel_rfl) (by kernel_rfl) (fun _ _ _ h => h) (fun o' wq e hS => exec_move wq e (by kernel_rfl)) HS0.out ?_
      refine takeG 3 (.move (.tmp 8)) (some 18) (some (2, false)) (.slice A1 n1 c1) (by kernel_rfl) (by kernel_rfl) (by kernel_rfl) (fun _ _ _ h => h) (fun o' wq e hS => exec_move wq e (by kernel_rfl)) HS0.out ?_
      refine takeG 4 (.call ⟨.builtin .len, #[(.tmp 18)], #[84]⟩) (some 19) (some (2, false)) (.int .i64 (n1 : Int)) (by kernel_rfl) (by kernel_rfl) (by kernel_rfl) (fun _ _ _ h => h) (fun o' wq e hS => exec_len (u := .slice A1 n1 c1) wq e (by kernel_rfl) (by kernel_rfl)) HS0.out ?_
      refine takeG 5 (.binOp .neq 3 (.tmp 19) (.const (.int .i64 5)) 3) (some 20) (some (2, false)) (.bool true) (by kernel_rfl) (by kernel_rfl) (by kernel_rfl) (fun _ _ _ h => h) (fun o' wq e hS => exec_bin (u1 := .int .i64 (n1 : Int)) (u2 := (.int .i64 5)) wq e (by kernel_rfl) (by kernel_rfl) (eqG_int ..) (neq_intT h5 _)) HS0.out ?_
      refine takeG 6 (.pick (.tmp 17) (.const (Value.bool true)) (.tmp 20)) (some 21) none (.bool true) (by kernel_rfl) (by kernel_rfl) (by kernel_rfl) (fun _ _ _ h => h) (fun o' wq e hS => exec_pick (b := false) wq e (by kernel_rfl) (by kernel_rfl)) HS0.out ?_
      refine takeG 7 (.move (.tmp 21)) (some 22) none (.bool true) (by kernel_rfl) (by kernel_rfl) (by kernel_rfl) (fun _ _ _ h => h) (fun o' wq e hS => exec_move wq e (by kernel_rfl)) HS0.out ?_
      refine takeSkip 8 (.move (.tmp 8)) (some 23) (some (7, false)) (by kernel_rfl) (by kernel_rfl) (by kernel_rfl) (fun _ _ _ h => h) HS0.out ?_
      refine takeSkip 9 (.indexAddr 84 (.tmp 23) (.const (.int .i64 0))) (some 24) (some (7, false)) (by kernel_rfl) (by kernel_rfl) (by kernel_rfl) (fun _ _ _ h => h) HS0.out ?_
      refine takeSkip 10 (.load 81 (.tmp 24)) (some 25) (some (7, false)) (by kernel_rfl) (by kernel_rfl) (by kernel_rfl) (fun _ _ _ h => h) HS0.out ?_
      refine takeSkip 11 (.call ⟨.value (.func 36), #[(.const (.int .i64 55))], #[3]⟩) (some 26) (some (7, false)) (by kernel_rfl) (by kernel_rfl) (by kernel_rfl) (fun _ _ _ h => h) HS0.out ?_
      refine takeSkip 12 (.binOp .neq 81 (.tmp 25) (.tmp 26) 81) (some 27) (some (7, false)) (by kernel_rfl) (by kernel_rfl) (by kernel_rfl) (fun _ _ _ h => h) HS0.out ?_
      refine takeG 13 (.pick (.tmp 22) (.const (Value.bool true)) (.tmp 27)) (some 28) none (.bool true) (by kernel_rfl) (by kernel_rfl) (by kernel_rfl) (fun _ _ _ h => h) (fun o' wq e hS => exec_pick (b := true) wq e (by kernel_rfl) (by kernel_rfl)) HS0.out ?_
      refine takeG 14 (.move (.tmp 28)) (some 29) none (.bool true) (by kernel_rfl) (by kernel_rfl) (by kernel_rfl) (fun _ _ _ h => h) (fun o' wq e hS => exec_move wq e (by kernel_rfl)) HS0.out ?_
      refine takeSkip 15 (.move (.tmp 8)) (some 30) (some (14, false)) (by kernel_rfl) (by kernel_rfl) (by kernel_rfl) (fun _ _ _ h => h) HS0.out ?_
      refine takeSkip 16 (.indexAddr 84 (.tmp 30) (.const (.int .i64 1))) (some 31) (some (14, false)) (by kernel_rfl) (by kernel_rfl) (by kernel_rfl) (fun _ _ _ h => h) HS0.out ?_
      refine takeSkip 17 (.load 81 (.tmp 31)) (some 32) (some (14, false)) (by kernel_rfl) (by kernel_rfl) (by kernel_rfl) (fun _ _ _ h => h) HS0.out ?_
      refine takeSkip 18 (.move (.tmp 1)) (some 33) (some (14, false)) (by kernel_rfl) (by kernel_rfl) (by kernel_rfl) (fun _ _ _ h => h) HS0.out ?_
      refine takeSkip 19 (.call ⟨.value (.func 36), #[(.tmp 33)], #[3]⟩) (some 34) (some (14, false)) (by kernel_rfl) (by kernel_rfl) (by kernel_rfl) (fun _ _ _ h => h) HS0.out ?_
      refine takeSkip 20 (.binOp .neq 81 (.tmp 32) (.tmp 34) 81) (some 35) (some (14, false)) (by kernel_rfl) (by kernel_rfl) (by kernel_rfl) (fun _ _ _ h => h) HS0.out ?_
      refine takeG 21 (.pick (.tmp 29) (.const (Value.bool true)) (.tmp 35)) (some 36) none (.bool true) (by kernel_rfl) (by kernel_rfl) (by kernel_rfl) (fun _ _ _ h => h) (fun o' wq e hS => exec_pick (b := true) wq e (by kernel_rfl) (by kernel_rfl)) HS0.out ?_
      refine takeG 22 (.move (.tmp 36)) (some 37) none (.bool true) (by kernel_rfl) (by kernel_rfl) (by kernel_rfl) (fun _ _ _ h => h) (fun o' wq e hS => exec_move wq e (by kernel_rfl)) HS0.out ?_
      refine takeSkip 23 (.move (.tmp 8)) (some 38) (some (22, false)) (by kernel_rfl) (by kernel_rfl) (by kernel_rfl) (fun _ _ _ h => h) HS0.out ?_
      refine takeSkip 24 (.indexAddr 84 (.tmp 38) (.const (.int .i64 2))) (some 39) (some (22, false)) (by kernel_rfl) (by kernel_rfl) (by kernel_rfl) (fun _ _ _ h => h) HS0.out ?_
      refine takeSkip 25 (.load 81 (.tmp 39)) (some 40) (some (22, false)) (by kernel_rfl) (by kernel_rfl) (by kernel_rfl) (fun _ _ _ h => h) HS0.out ?_
      refine takeSkip 26 (.move (.tmp 2)) (some 41) (some (22, false)) (by kernel_rfl) (by kernel_rfl) (by kernel_rfl) (fun _ _ _ h => h) HS0.out ?_
      refine takeSkip 27 (.call ⟨.value (.func 36), #[(.tmp 41)], #[3]⟩) (some 42) (some (22, false)) (by kernel_rfl) (by kernel_rfl) (by kernel_rfl) (fun _ _ _ h => h) HS0.out ?_
      refine takeSkip 28 (.binOp .neq 81 (.tmp 40) (.tmp 42) 81) (some 43) (some (22, false)) (by kernel_rfl) (by kernel_rfl) (by kernel_rfl) (fun _ _ _ h => h) HS0.out ?_
      refine lastS 29 (.pick (.tmp 37) (.const (Value.bool true)) (.tmp 43)) (some 44) (.bool true) (by kernel_rfl) (by kernel_rfl) (by kernel_rfl) HS0.out (fun o' e => exec_pick (b := true) _ e (by kernel_rfl) (by kernel_rfl)) ?_
      simp only [put_some, put_none, List.setIfInBounds_toArray, List.set_cons_succ, List.set_cons_zero]
      have HB0 : Hid (Below w1.heap.size w1 w1.drew) := HS0
      clear HS0
      go_wp2_with fail
      go_meet
      exact ⟨true, rfl, Lib.hid (.inl ⟨rfl, HNG.out⟩), HB0⟩
    obtain ⟨l, hl⟩ : ∃ l, l = unsL L := ⟨_, rfl⟩
    have h50 : l.length = 5 := by rw [hl, ← HN1.out]; exact h5
    rw [← hl] at r1
    match l, h50 with
    | [x0, x1, x2, x3, x4], _ =>
    have HLL := Lib.hid hl.symm
    clear hl
    obtain ⟨gl, ol, hA, hgl, _⟩ := r1 0 x0 rfl
    have HLD : Hid (∀ W', Below w1.heap.size w1 W' → ∀ j x, [x0, x1, x2, x3, x4][j]? = some x → (Instr.loadAt 81 (.pointer (some ⟨gl, ol + j * 3, none⟩))).run Tryd.prog W' = .ok (.agg (itA x)) W') := Lib.hid fun W' hw j x hj => by
      obtain ⟨b', o', hA', hb', a0, a1, a2⟩ := r1 j x hj
      rw [hA] at hA'
      injection hA' with hA'
      injection hA' with q1 q2
      subst q1 q2
      exact load_item ((hw.cell (p := ⟨gl, ol + j * 3, none⟩) hgl).trans a0) ((hw.cell (p := ⟨gl, ol + j * 3 + 1, none⟩) hgl).trans a1) ((hw.cell (p := ⟨gl, ol + j * 3 + 2, none⟩) hgl).trans a2)
    clear r1 lc1
    by_cases h0 : x0 = ⟨1, 55, ⟨#[]⟩⟩
    rotate_left
    · have HNG : Hid (∀ y3 y4, ¬ Gd L b k y3 y4) := Lib.hid fun y3 y4 h => h0 (by have e := HLL.out.symm.trans h.2; injection e)
      refine region_anyZ (fun W => Below w1.heap.size w1 W) 30 (by kernel_rfl) ?_
      refine takeG 0 (.move (.tmp 9)) (some 15) none (.int .i64 ue) (by kernel_rfl) (by kernel_rfl) (by kernel_rfl) (fun _ _ _ h => h) (fun o' wq e hS => exec_move wq e (by kernel_rfl)) HS0.out ?_
      refine takeG 1 (.binOp .neq 26 (.tmp 15) (.const (.int .i64 0)) 26) (some 16) none (.bool false) (by kernel_rfl) (by kernel_rfl) (by kernel_rfl) (fun _ _ _ h => h) (fun o' wq e hS => exec_bin (u1 := .int .i64 ue) (u2 := (.int .i64 0)) wq e (by kernel_rfl) (by kernel_rfl) (eqG_int ..) (ne_zeroE hE _)) HS0.out ?_
      refine takeG 2 (.move (.tmp 16)) (some 17) none (.bool false) (by kernel_rfl) (by kernel_rfl) (by kernel_rfl) (fun _ _ _ h => h) (fun o' wq e hS => exec_move wq e (by kernel_rfl)) HS0.out ?_
      refine takeG 3 (.move (.tmp 8)) (some 18) (some (2, false)) (.slice A1 n1 c1) (by kernel_rfl) (by kernel_rfl) (by kernel_rfl) (fun _ _ _ h => h) (fun o' wq e hS => exec_move wq e (by kernel_rfl)) HS0.out ?_
      refine takeG 4 (.call ⟨.builtin .len, #[(.tmp 18)], #[84]⟩) (some 19) (some (2, false)) (.int .i64 (n1 : Int)) (by kernel_rfl) (by kernel_rfl) (by kernel_rfl) (fun _ _ _ h => h) (fun o' wq e hS => exec_len (u := .slice A1 n1 c1) wq e (by kernel_rfl) (by kernel_rfl)) HS0.out ?_
      refine takeG 5 (.binOp .neq 3 (.tmp 19) (.const (.int .i64 5)) 3) (some 20) (some (2, false)) (.bool false) (by kernel_rfl) (by kernel_rfl) (by kernel_rfl) (fun _ _ _ h => h) (fun o' wq e hS => exec_bin (u1 := .int .i64 (n1 : Int)) (u2 := (.int .i64 5)) wq e (by kernel_rfl) (by kernel_rfl) (eqG_int ..) (neq_intF h5 _)) HS0.out ?_
      refine takeG 6 (.pick (.tmp 17) (.const (Value.bool true)) (.tmp 20)) (some 21) none (.bool false) (by kernel_rfl) (by kernel_rfl) (by kernel_rfl) (fun _ _ _ h => h) (fun o' wq e hS => exec_pick (b := false) wq e (by kernel_rfl) (by kernel_rfl)) HS0.out ?_
      refine takeG 7 (.move (.tmp 21)) (some 22) none (.bool false) (by kernel_rfl) (by kernel_rfl) (by kernel_rfl) (fun _ _ _ h => h) (fun o' wq e hS => exec_move wq e (by kernel_rfl)) HS0.out ?_
      refine takeG 8 (.move (.tmp 8)) (some 23) (some (7, false)) (.slice A1 n1 c1) (by kernel_rfl) (by kernel_rfl) (by kernel_rfl) (fun _ _ _ h => h) (fun o' wq e hS => exec_move wq e (by kernel_rfl)) HS0.out ?_
      refine takeG 9 (.indexAddr 84 (.tmp 23) (.const (.int .i64 0))) (some 24) (some (7, false)) (.pointer (some ⟨gl, ol + 0 * 3, none⟩)) (by kernel_rfl) (by kernel_rfl) (by kernel_rfl) (fun _ _ _ h => h) (fun o' wq e hS => exec_index (u1 := .slice A1 n1 c1) (u2 := (.int .i64 0)) wq e (by kernel_rfl) (by kernel_rfl) (idxA hA h5 0 (by omega) _)) HS0.out ?_
      refine takeG 10 (.load 81 (.tmp 24)) (some 25) (some (7, false)) (.agg (itA x0)) (by kernel_rfl) (by kernel_rfl) (by kernel_rfl) (fun _ _ _ h => h) (fun o' wq e hS => exec_load (x := (.tmp 24)) e (by kernel_rfl) (HLD.out wq hS 0 _ rfl)) HS0.out ?_
      refine loneG 11 (.call ⟨.value (.func 36), #[(.const (.int .i64 55))], #[3]⟩) (some 26) (some (7, false)) (by kernel_rfl) (by kernel_rfl) (by kernel_rfl) ?_
      intro o' ho hod
      refine wp_callC (f := 36) (args := #[.int .i64 55]) (by cases o'; cases ho; kernel_rfl) (number_it 55 _) ?_
      rintro e y1 ⟨rfl, by1⟩
      refine ⟨_, rfl, ?_⟩
      rw [hod]
      clear hod ho
      have HS1 : Hid (Below w1.heap.size w1 y1) := Lib.hid (tr_ HS0.out by1)
      clear by1
      refine ⟨fun _ => HS1.out, ?_⟩
      refine takeG 12 (.binOp .neq 81 (.tmp 25) (.tmp 26) 81) (some 27) (some (7, false)) (.bool true) (by kernel_rfl) (by kernel_rfl) (by kernel_rfl) (fun _ _ _ h => h) (fun o' wq e hS => exec_bin (u1 := .agg (itA x0)) (u2 := .agg (itA ⟨1, 55, ⟨#[]⟩⟩)) wq e (by kernel_rfl) (by kernel_rfl) (guard_item ..) (neq_diff x0 ⟨1, 55, ⟨#[]⟩⟩ h0 _)) HS1.out ?_
      refine takeG 13 (.pick (.tmp 22) (.const (Value.bool true)) (.tmp 27)) (some 28) none (.bool true) (by kernel_rfl) (by kernel_rfl) (by kernel_rfl) (fun _ _ _ h => h) (fun o' wq e hS => exec_pick (b := false) wq e (by kernel_rfl) (by kernel_rfl)) HS1.out ?_
      refine takeG 14 (.move (.tmp 28)) (some 29) none (.bool true) (by kernel_rfl) (by kernel_rfl) (by kernel_rfl) (fun _ _ _ h => h) (fun o' wq e hS => exec_move wq e (by kernel_rfl)) HS1.out ?_
      refine takeSkip 15 (.move (.tmp 8)) (some 30) (some (14, false)) (by kernel_rfl) (by kernel_rfl) (by kernel_rfl) (fun _ _ _ h => h) HS1.out ?_
      refine takeSkip 16 (.indexAddr 84 (.tmp 30) (.const (.int .i64 1))) (some 31) (some (14, false)) (by kernel_rfl) (by kernel_rfl) (by kernel_rfl) (fun _ _ _ h => h) HS1.out ?_
      refine takeSkip 17 (.load 81 (.tmp 31)) (some 32) (some (14, false)) (by kernel_rfl) (by kernel_rfl) (by kernel_rfl) (fun _ _ _ h => h) HS1.out ?_
      refine takeSkip 18 (.move (.tmp 1)) (some 33) (some (14, false)) (by kernel_rfl) (by kernel_rfl) (by kernel_rfl) (fun _ _ _ h => h) HS1.out ?_
      refine takeSkip 19 (.call ⟨.value (.func 36), #[(.tmp 33)], #[3]⟩) (some 34) (some (14, false)) (by kernel_rfl) (by kernel_rfl) (by kernel_rfl) (fun _ _ _ h => h) HS1.out ?_
      refine takeSkip 20 (.binOp .neq 81 (.tmp 32) (.tmp 34) 81) (some 35) (some (14, false)) (by kernel_rfl) (by kernel_rfl) (by kernel_rfl) (fun _ _ _ h => h) HS1.out ?_
      refine takeG 21 (.pick (.tmp 29) (.const (Value.bool true)) (.tmp 35)) (some 36) none (.bool true) (by kernel_rfl) (by kernel_rfl) (by kernel_rfl) (fun _ _ _ h => h) (fun o' wq e hS => exec_pick (b := true) wq e (by kernel_rfl) (by kernel_rfl)) HS1.out ?_
      refine takeG 22 (.move (.tmp 36)) (some 37) none (.bool true) (by kernel_rfl) (by kernel_rfl) (by kernel_rfl) (fun _ _ _ h => h) (fun o' wq e hS => exec_move wq e (by kernel_rfl)) HS1.out ?_
      refine takeSkip 23 (.move (.tmp 8)) (some 38) (some (22, false)) (by kernel_rfl) (by kernel_rfl) (by kernel_rfl) (fun _ _ _ h => h) HS1.out ?_
      refine takeSkip 24 (.indexAddr 84 (.tmp 38) (.const (.int .i64 2))) (some 39) (some (22, false)) (by kernel_rfl) (by kernel_rfl) (by kernel_rfl) (fun _ _ _ h => h) HS1.out ?_
      refine takeSkip 25 (.load 81 (.tmp 39)) (some 40) (some (22, false)) (by kernel_rfl) (by kernel_rfl) (by kernel_rfl) (fun _ _ _ h => h) HS1.out ?_
      refine takeSkip 26 (.move (.tmp 2)) (some 41) (some (22, false)) (by kernel_rfl) (by kernel_rfl) (by kernel_rfl) (fun _ _ _ h => h) HS1.out ?_
      refine takeSkip 27 (.call ⟨.value (.func 36), #[(.tmp 41)], #[3]⟩) (some 42) (some (22, false)) (by kernel_rfl) (by kernel_rfl) (by kernel_rfl) (fun _ _ _ h => h) HS1.out ?_
      refine takeSkip 28 (.binOp .neq 81 (.tmp 40) (.tmp 42) 81) (some 43) (some (22, false)) (by kernel_rfl) (by kernel_rfl) (by kernel_rfl) (fun _ _ _ h => h) HS1.out ?_
      refine lastS 29 (.pick (.tmp 37) (.const (Value.bool true)) (.tmp 43)) (some 44) (.bool true) (by kernel_rfl) (by kernel_rfl) (by kernel_rfl) HS1.out (fun o' e => exec_pick (b := true) _ e (by kernel_rfl) (by kernel_rfl)) ?_
      simp only [put_some, put_none, List.setIfInBounds_toArray, List.set_cons_succ, List.set_cons_zero]
      have HB0 : Hid (Below w1.heap.size w1 y1) := HS1
      clear HS0
      go_wp2_with fail
      go_meet
      exact ⟨true, rfl, Lib.hid (.inl ⟨rfl, HNG.out⟩), HB0⟩
    by_cases h1 : x1 = ⟨1, b, ⟨#[]⟩⟩
    rotate_left
    · have HNG : Hid (∀ y3 y4, ¬ Gd L b k y3 y4) := Lib.hid fun y3 y4 h => h1 (by have e := HLL.out.symm.trans h.2; injection e with _ e; injection e)
      refine region_anyZ (fun W => Below w1.heap.size w1 W) 30 (by kernel_rfl) ?_
      refine takeG 0 (.move (.tmp 9)) (some 15) none (.int .i64 ue) (by kernel_rfl) (by kernel_rfl) (by kernel_rfl) (fun _ _ _ h => h) (fun o' wq e hS => exec_move wq e (by kernel_rfl)) HS0.out ?_
      refine takeG 1 (.binOp .neq 26 (.tmp 15) (.const (.int .i64 0)) 26) (some 16) none (.bool false) (by kernel_rfl) (by kernel_rfl) (by kernel_rfl) (fun _ _ _ h => h) (fun o' wq e hS => exec_bin (u1 := .int .i64 ue) (u2 := (.int .i64 0)) wq e (by kernel_rfl) (by kernel_rfl) (eqG_int ..) (ne_zeroE hE _)) HS0.out ?_
      refine takeG 2 (.move (.tmp 16)) (some 17) none (.bool false) (by kernel_rfl) (by kernel_rfl) (by kernel_rfl) (fun _ _ _ h => h) (fun o' wq e hS => exec_move wq e (by kernel_rfl)) HS0.out ?_
      refine takeG 3 (.move (.tmp 8)) (some 18) (some (2, false)) (.slice A1 n1 c1) (by kernel_rfl) (by kernel_rfl) (by kernel_rfl) (fun _ _ _ h => h) (fun o' wq e hS => exec_move wq e (by kernel_rfl)) HS0.out ?_
      refine takeG 4 (.call ⟨.builtin .len, #[(.tmp 18)], #[84]⟩) (some 19) (some (2, false)) (.int .i64 (n1 : Int)) (by kernel_rfl) (by kernel_rfl) (by kernel_rfl) (fun _ _ _ h => h) (fun o' wq e hS => exec_len (u := .slice A1 n1 c1) wq e (by kernel_rfl) (by kernel_rfl)) HS0.out ?_
      refine takeG 5 (.binOp .neq 3 (.tmp 19) (.const (.int .i64 5)) 3) (some 20) (some (2, false)) (.bool false) (by kernel_rfl) (by kernel_rfl) (by kernel_rfl) (fun _ _ _ h => h) (fun o' wq e hS => exec_bin (u1 := .int .i64 (n1 : Int)) (u2 := (.int .i64 5)) wq e (by kernel_rfl) (by kernel_rfl) (eqG_int ..) (neq_intF h5 _)) HS0.out ?_
      refine takeG 6 (.pick (.tmp 17) (.const (Value.bool true)) (.tmp 20)) (some 21) none (.bool false) (by kernel_rfl) (by kernel_rfl) (by kernel_rfl) (fun _ _ _ h => h) (fun o' wq e hS => exec_pick (b := false) wq e (by kernel_rfl) (by kernel_rfl)) HS0.out ?_
      refine takeG 7 (.move (.tmp 21)) (some 22) none (.bool false) (by kernel_rfl) (by kernel_rfl) (by kernel_rfl) (fun _ _ _ h => h) (fun o' wq e hS => exec_move wq e (by kernel_rfl)) HS0.out ?_
      refine takeG 8 (.move (.tmp 8)) (some 23) (some (7, false)) (.slice A1 n1 c1) (by kernel_rfl) (by kernel_rfl) (by kernel_rfl) (fun _ _ _ h => h) (fun o' wq e hS => exec_move wq e (by kernel_rfl)) HS0.out ?_
      refine takeG 9 (.indexAddr 84 (.tmp 23) (.const (.int .i64 0))) (some 24) (some (7, false)) (.pointer (some ⟨gl, ol + 0 * 3, none⟩)) (by kernel_rfl) (by kernel_rfl) (by kernel_rfl) (fun _ _ _ h => h) (fun o' wq e hS => exec_index (u1 := .slice A1 n1 c1) (u2 := (.int .i64 0)) wq e (by kernel_rfl) (by kernel_rfl) (idxA hA h5 0 (by omega) _)) HS0.out ?_
      refine takeG 10 (.load 81 (.tmp 24)) (some 25) (some (7, false)) (.agg (itA x0)) (by kernel_rfl) (by kernel_rfl) (by kernel_rfl) (fun _ _ _ h => h) (fun o' wq e hS => exec_load (x := (.tmp 24)) e (by kernel_rfl) (HLD.out wq hS 0 _ rfl)) HS0.out ?_
      refine loneG 11 (.call ⟨.value (.func 36), #[(.const (.int .i64 55))], #[3]⟩) (some 26) (some (7, false)) (by kernel_rfl) (by kernel_rfl) (by kernel_rfl) ?_
      intro o' ho hod
      refine wp_callC (f := 36) (args := #[.int .i64 55]) (by cases o'; cases ho; kernel_rfl) (number_it 55 _) ?_
      rintro e y1 ⟨rfl, by1⟩
      refine ⟨_, rfl, ?_⟩
      rw [hod]
      clear hod ho
      have HS1 : Hid (Below w1.heap.size w1 y1) := Lib.hid (tr_ HS0.out by1)
      clear by1
      refine ⟨fun _ => HS1.out, ?_⟩
      refine takeG 12 (.binOp .neq 81 (.tmp 25) (.tmp 26) 81) (some 27) (some (7, false)) (.bool false) (by kernel_rfl) (by kernel_rfl) (by kernel_rfl) (fun _ _ _ h => h) (fun o' wq e hS => exec_bin (u1 := .agg (itA x0)) (u2 := .agg (itA ⟨1, 55, ⟨#[]⟩⟩)) wq e (by kernel_rfl) (by kernel_rfl) (guard_item ..) (neq_it h0 _)) HS1.out ?_
      refine takeG 13 (.pick (.tmp 22) (.const (Value.bool true)) (.tmp 27)) (some 28) none (.bool false) (by kernel_rfl) (by kernel_rfl) (by kernel_rfl) (fun _ _ _ h => h) (fun o' wq e hS => exec_pick (b := false) wq e (by kernel_rfl) (by kernel_rfl)) HS1.out ?_
      refine takeG 14 (.move (.tmp 28)) (some 29) none (.bool false) (by kernel_rfl) (by kernel_rfl) (by kernel_rfl) (fun _ _ _ h => h) (fun o' wq e hS => exec_move wq e (by kernel_rfl)) HS1.out ?_
      refine takeG 15 (.move (.tmp 8)) (some 30) (some (14, false)) (.slice A1 n1 c1) (by kernel_rfl) (by kernel_rfl) (by kernel_rfl) (fun _ _ _ h => h) (fun o' wq e hS => exec_move wq e (by kernel_rfl)) HS1.out ?_
      refine takeG 16 (.indexAddr 84 (.tmp 30) (.const (.int .i64 1))) (some 31) (some (14, false)) (.pointer (some ⟨gl, ol + 1 * 3, none⟩)) (by kernel_rfl) (by kernel_rfl) (by kernel_rfl) (fun _ _ _ h => h) (fun o' wq e hS => exec_index (u1 := .slice A1 n1 c1) (u2 := (.int .i64 1)) wq e (by kernel_rfl) (by kernel_rfl) (idxA hA h5 1 (by omega) _)) HS1.out ?_
      refine takeG 17 (.load 81 (.tmp 31)) (some 32) (some (14, false)) (.agg (itA x1)) (by kernel_rfl) (by kernel_rfl) (by kernel_rfl) (fun _ _ _ h => h) (fun o' wq e hS => exec_load (x := (.tmp 31)) e (by kernel_rfl) (HLD.out wq hS 1 _ rfl)) HS1.out ?_
      refine takeG 18 (.move (.tmp 1)) (some 33) (some (14, false)) (.int .i64 b) (by kernel_rfl) (by kernel_rfl) (by kernel_rfl) (fun _ _ _ h => h) (fun o' wq e hS => exec_move wq e (by kernel_rfl)) HS1.out ?_
      refine loneG 19 (.call ⟨.value (.func 36), #[(.tmp 33)], #[3]⟩) (some 34) (some (14, false)) (by kernel_rfl) (by kernel_rfl) (by kernel_rfl) ?_
      intro o' ho hod
      refine wp_callC (f := 36) (args := #[.int .i64 b]) (by cases o'; cases ho; kernel_rfl) (number_it b _) ?_
      rintro e y2 ⟨rfl, by2⟩
      refine ⟨_, rfl, ?_⟩
      rw [hod]
      clear hod ho
      have HS2 : Hid (Below w1.heap.size w1 y2) := Lib.hid (tr_ HS1.out by2)
      clear by2
      refine ⟨fun _ => HS2.out, ?_⟩
      refine takeG 20 (.binOp .neq 81 (.tmp 32) (.tmp 34) 81) (some 35) (some (14, false)) (.bool true) (by kernel_rfl) (by kernel_rfl) (by kernel_rfl) (fun _ _ _ h => h) (fun o' wq e hS => exec_bin (u1 := .agg (itA x1)) (u2 := .agg (itA ⟨1, b, ⟨#[]⟩⟩)) wq e (by kernel_rfl) (by kernel_rfl) (guard_item ..) (neq_diff x1 ⟨1, b, ⟨#[]⟩⟩ h1 _)) HS2.out ?_
      refine takeG 21 (.pick (.tmp 29) (.const (Value.bool true)) (.tmp 35)) (some 36) none (.bool true) (by kernel_rfl) (by kernel_rfl) (by kernel_rfl) (fun _ _ _ h => h) (fun o' wq e hS => exec_pick (b := false) wq e (by kernel_rfl) (by kernel_rfl)) HS2.out ?_
      refine takeG 22 (.move (.tmp 36)) (some 37) none (.bool true) (by kernel_rfl) (by kernel_rfl) (by kernel_rfl) (fun _ _ _ h => h) (fun o' wq e hS => exec_move wq e (by kernel_rfl)) HS2.out ?_
      refine takeSkip 23 (.move (.tmp 8)) (some 38) (some (22, false)) (by kernel_rfl) (by kernel_rfl) (by kernel_rfl) (fun _ _ _ h => h) HS2.out ?_
      refine takeSkip 24 (.indexAddr 84 (.tmp 38) (.const (.int .i64 2))) (some 39) (some (22, false)) (by kernel_rfl) (by kernel_rfl) (by kernel_rfl) (fun _ _ _ h => h) HS2.out ?_
      refine takeSkip 25 (.load 81 (.tmp 39)) (some 40) (some (22, false)) (by kernel_rfl) (by kernel_rfl) (by kernel_rfl) (fun _ _ _ h => h) HS2.out ?_
      refine takeSkip 26 (.move (.tmp 2)) (some 41) (some (22, false)) (by kernel_rfl) (by kernel_rfl) (by kernel_rfl) (fun _ _ _ h => h) HS2.out ?_
      refine takeSkip 27 (.call ⟨.value (.func 36), #[(.tmp 41)], #[3]⟩) (some 42) (some (22, false)) (by kernel_rfl) (by kernel_rfl) (by kernel_rfl) (fun _ _ _ h => h) HS2.out ?_
      refine takeSkip 28 (.binOp .neq 81 (.tmp 40) (.tmp 42) 81) (some 43) (some (22, false)) (by kernel_rfl) (by kernel_rfl) (by kernel_rfl) (fun _ _ _ h => h) HS2.out ?_
      refine lastS 29 (.pick (.tmp 37) (.const (Value.bool true)) (.tmp 43)) (some 44) (.bool true) (by kernel_rfl) (by kernel_rfl) (by kernel_rfl) HS2.out (fun o' e => exec_pick (b := true) _ e (by kernel_rfl) (by kernel_rfl)) ?_
      simp only [put_some, put_none, List.setIfInBounds_toArray, List.set_cons_succ, List.set_cons_zero]
      have HB0 : Hid (Below w1.heap.size w1 y2) := HS2
      clear HS0
      go_wp2_with fail
      go_meet
      exact ⟨true, rfl, Lib.hid (.inl ⟨rfl, HNG.out⟩), HB0⟩
    by_cases h2 : x2 = ⟨1, k, ⟨#[]⟩⟩
    rotate_left
    · have HNG : Hid (∀ y3 y4, ¬ Gd L b k y3 y4) := Lib.hid fun y3 y4 h => h2 (by have e := HLL.out.symm.trans h.2; injection e with _ e; injection e with _ e; injection e)
      refine region_anyZ (fun W => Below w1.heap.size w1 W) 30 (by kernel_rfl) ?_
      refine takeG 0 (.move (.tmp 9)) (some 15) none (.int .i64 ue) (by kernel_rfl) (by kernel_rfl) (by kernel_rfl) (fun _ _ _ h => h) (fun o' wq e hS => exec_move wq e (by kernel_rfl)) HS0.out ?_
      refine takeG 1 (.binOp .neq 26 (.tmp 15) (.const (.int .i64 0)) 26) (some 16) none (.bool false) (by kernel_rfl) (by kernel_rfl) (by kernel_rfl) (fun _ _ _ h => h) (fun o' wq e hS => exec_bin (u1 := .int .i64 ue) (u2 := (.int .i64 0)) wq e (by kernel_rfl) (by kernel_rfl) (eqG_int ..) (ne_zeroE hE _)) HS0.out ?_
      refine takeG 2 (.move (.tmp 16)) (some 17) none (.bool false) (by kernel_rfl) (by kernel_rfl) (by kernel_rfl) (fun _ _ _ h => h) (fun o' wq e hS => exec_move wq e (by kernel_rfl)) HS0.out ?_
      refine takeG 3 (.move (.tmp 8)) (some 18) (some (2, false)) (.slice A1 n1 c1) (by kernel_rfl) (by kernel_rfl) (by kernel_rfl) (fun _ _ _ h => h) (fun o' wq e hS => exec_move wq e (by kernel_rfl)) HS0.out ?_
      refine takeG 4 (.call ⟨.builtin .len, #[(.tmp 18)], #[84]⟩) (some 19) (some (2, false)) (.int .i64 (n1 : Int)) (by kernel_rfl) (by kernel_rfl) (by kernel_rfl) (fun _ _ _ h => h) (fun o' wq e hS => exec_len (u := .slice A1 n1 c1) wq e (by kernel_rfl) (by kernel_rfl)) HS0.out ?_
      refine takeG 5 (.binOp .neq 3 (.tmp 19) (.const (.int .i64 5)) 3) (some 20) (some (2, false)) (.bool false) (by kernel_rfl) (by kernel_rfl) (by kernel_rfl) (fun _ _ _ h => h) (fun o' wq e hS => exec_bin (u1 := .int .i64 (n1 : Int)) (u2 := (.int .i64 5)) wq e (by kernel_rfl) (by kernel_rfl) (eqG_int ..) (neq_intF h5 _)) HS0.out ?_
      refine takeG 6 (.pick (.tmp 17) (.const (Value.bool true)) (.tmp 20)) (some 21) none (.bool false) (by kernel_rfl) (by kernel_rfl) (by kernel_rfl) (fun _ _ _ h => h) (fun o' wq e hS => exec_pick (b := false) wq e (by kernel_rfl) (by kernel_rfl)) HS0.out ?_
      refine takeG 7 (.move (.tmp 21)) (some 22) none (.bool false) (by kernel_rfl) (by kernel_rfl) (by kernel_rfl) (fun _ _ _ h => h) (fun o' wq e hS => exec_move wq e (by kernel_rfl)) HS0.out ?_
      refine takeG 8 (.move (.tmp 8)) (some 23) (some (7, false)) (.slice A1 n1 c1) (by kernel_rfl) (by kernel_rfl) (by kernel_rfl) (fun _ _ _ h => h) (fun o' wq e hS => exec_move wq e (by kernel_rfl)) HS0.out ?_
      refine takeG 9 (.indexAddr 84 (.tmp 23) (.const (.int .i64 0))) (some 24) (some (7, false)) (.pointer (some ⟨gl, ol + 0 * 3, none⟩)) (by kernel_rfl) (by kernel_rfl) (by kernel_rfl) (fun _ _ _ h => h) (fun o' wq e hS => exec_index (u1 := .slice A1 n1 c1) (u2 := (.int .i64 0)) wq e (by kernel_rfl) (by kernel_rfl) (idxA hA h5 0 (by omega) _)) HS0.out ?_
      refine takeG 10 (.load 81 (.tmp 24)) (some 25) (some (7, false)) (.agg (itA x0)) (by kernel_rfl) (by kernel_rfl) (by kernel_rfl) (fun _ _ _ h => h) (fun o' wq e hS => exec_load (x := (.tmp 24)) e (by kernel_rfl) (HLD.out wq hS 0 _ rfl)) HS0.out ?_
      refine loneG 11 (.call ⟨.value (.func 36), #[(.const (.int .i64 55))], #[3]⟩) (some 26) (some (7, false)) (by kernel_rfl) (by kernel_rfl) (by kernel_rfl) ?_
      intro o' ho hod
      refine wp_callC (f := 36) (args := #[.int .i64 55]) (by cases o'; cases ho; kernel_rfl) (number_it 55 _) ?_
      rintro e y1 ⟨rfl, by1⟩
      refine ⟨_, rfl, ?_⟩
      rw [hod]
      clear hod ho
      have HS1 : Hid (Below w1.heap.size w1 y1) := Lib.hid (tr_ HS0.out by1)
      clear by1
      refine ⟨fun _ => HS1.out, ?_⟩
      refine takeG 12 (.binOp .neq 81 (.tmp 25) (.tmp 26) 81) (some 27) (some (7, false)) (.bool false) (by kernel_rfl) (by kernel_rfl) (by kernel_rfl) (fun _ _ _ h => h) (fun o' wq e hS => exec_bin (u1 := .agg (itA x0)) (u2 := .agg (itA ⟨1, 55, ⟨#[]⟩⟩)) wq e (by kernel_rfl) (by kernel_rfl) (guard_item ..) (neq_it h0 _)) HS1.out ?_
      refine takeG 13 (.pick (.tmp 22) (.const (Value.bool true)) (.tmp 27)) (some 28) none (.bool false) (by kernel_rfl) (by kernel_rfl) (by kernel_rfl) (fun _ _ _ h => h) (fun o' wq e hS => exec_pick (b := false) wq e (by kernel_rfl) (by kernel_rfl)) HS1.out ?_
      refine takeG 14 (.move (.tmp 28)) (some 29) none (.bool false) (by kernel_rfl) (by kernel_rfl) (by kernel_rfl) (fun _ _ _ h => h) (fun o' wq e hS => exec_move wq e (by kernel_rfl)) HS1.out ?_
      refine takeG 15 (.move (.tmp 8)) (some 30) (some (14, false)) (.slice A1 n1 c1) (by kernel_rfl) (by kernel_rfl) (by kernel_rfl) (fun _ _ _ h => h) (fun o' wq e hS => exec_move wq e (by kernel_rfl)) HS1.out ?_
      refine takeG 16 (.indexAddr 84 (.tmp 30) (.const (.int .i64 1))) (some 31) (some (14, false)) (.pointer (some ⟨gl, ol + 1 * 3, none⟩)) (by kernel_rfl) (by kernel_rfl) (by kernel_rfl) (fun _ _ _ h => h) (fun o' wq e hS => exec_index (u1 := .slice A1 n1 c1) (u2 := (.int .i64 1)) wq e (by kernel_rfl) (by kernel_rfl) (idxA hA h5 1 (by omega) _)) HS1.out ?_
      refine takeG 17 (.load 81 (.tmp 31)) (some 32) (some (14, false)) (.agg (itA x1)) (by kernel_rfl) (by kernel_rfl) (by kernel_rfl) (fun _ _ _ h => h) (fun o' wq e hS => exec_load (x := (.tmp 31)) e (by kernel_rfl) (HLD.out wq hS 1 _ rfl)) HS1.out ?_
      refine takeG 18 (.move (.tmp 1)) (some 33) (some (14, false)) (.int .i64 b) (by kernel_rfl) (by kernel_rfl) (by kernel_rfl) (fun _ _ _ h => h) (fun o' wq e hS => exec_move wq e (by kernel_rfl)) HS1.out ?_
      refine loneG 19 (.call ⟨.value (.func 36), #[(.tmp 33)], #[3]⟩) (some 34) (some (14, false)) (by kernel_rfl) (by kernel_rfl) (by kernel_rfl) ?_
      intro o' ho hod
      refine wp_callC (f := 36) (args := #[.int .i64 b]) (by cases o'; cases ho; kernel_rfl) (number_it b _) ?_
      rintro e y2 ⟨rfl, by2⟩
      refine ⟨_, rfl, ?_⟩
      rw [hod]
      clear hod ho
      have HS2 : Hid (Below w1.heap.size w1 y2) := Lib.hid (tr_ HS1.out by2)
      clear by2
      refine ⟨fun _ => HS2.out, ?_⟩
      refine takeG 20 (.binOp .neq 81 (.tmp 32) (.tmp 34) 81) (some 35) (some (14, false)) (.bool false) (by kernel_rfl) (by kernel_rfl) (by kernel_rfl) (fun _ _ _ h => h) (fun o' wq e hS => exec_bin (u1 := .agg (itA x1)) (u2 := .agg (itA ⟨1, b, ⟨#[]⟩⟩)) wq e (by kernel_rfl) (by kernel_rfl) (guard_item ..) (neq_it h1 _)) HS2.out ?_
      refine takeG 21 (.pick (.tmp 29) (.const (Value.bool true)) (.tmp 35)) (some 36) none (.bool false) (by kernel_rfl) (by kernel_rfl) (by kernel_rfl) (fun _ _ _ h => h) (fun o' wq e hS => exec_pick (b := false) wq e (by kernel_rfl) (by kernel_rfl)) HS2.out ?_
      refine takeG 22 (.move (.tmp 36)) (some 37) none (.bool false) (by kernel_rfl) (by kernel_rfl) (by kernel_rfl) (fun _ _ _ h => h) (fun o' wq e hS => exec_move wq e (by kernel_rfl)) HS2.out ?_
      refine takeG 23 (.move (.tmp 8)) (some 38) (some (22, false)) (.slice A1 n1 c1) (by kernel_rfl) (by kernel_rfl) (by kernel_rfl) (fun _ _ _ h => h) (fun o' wq e hS => exec_move wq e (by kernel_rfl)) HS2.out ?_
      refine takeG 24 (.indexAddr 84 (.tmp 38) (.const (.int .i64 2))) (some 39) (some (22, false)) (.pointer (some ⟨gl, ol + 2 * 3, none⟩)) (by kernel_rfl) (by kernel_rfl) (by kernel_rfl) (fun _ _ _ h => h) (fun o' wq e hS => exec_index (u1 := .slice A1 n1 c1) (u2 := (.int .i64 2)) wq e (by kernel_rfl) (by kernel_rfl) (idxA hA h5 2 (by omega) _)) HS2.out ?_
      refine takeG 25 (.load 81 (.tmp 39)) (some 40) (some (22, false)) (.agg (itA x2)) (by kernel_rfl) (by kernel_rfl) (by kernel_rfl) (fun _ _ _ h => h) (fun o' wq e hS => exec_load (x := (.tmp 39)) e (by kernel_rfl) (HLD.out wq hS 2 _ rfl)) HS2.out ?_
      refine takeG 26 (.move (.tmp 2)) (some 41) (some (22, false)) (.int .i64 k) (by kernel_rfl) (by kernel_rfl) (by kernel_rfl) (fun _ _ _ h => h) (fun o' wq e hS => exec_move wq e (by kernel_rfl)) HS2.out ?_
      refine loneG 27 (.call ⟨.value (.func 36), #[(.tmp 41)], #[3]⟩) (some 42) (some (22, false)) (by kernel_rfl) (by kernel_rfl) (by kernel_rfl) ?_
      intro o' ho hod
      refine wp_callC (f := 36) (args := #[.int .i64 k]) (by cases o'; cases ho; kernel_rfl) (number_it k _) ?_
      rintro e y3 ⟨rfl, by3⟩
      refine ⟨_, rfl, ?_⟩
      rw [hod]
      clear hod ho
      have HS3 : Hid (Below w1.heap.size w1 y3) := Lib.hid (tr_ HS2.out by3)
      clear by3
      refine ⟨fun _ => HS3.out, ?_⟩
      refine takeG 28 (.binOp .neq 81 (.tmp 40) (.tmp 42) 81) (some 43) (some (22, false)) (.bool true) (by kernel_rfl) (by kernel_rfl) (by kernel_rfl) (fun _ _ _ h => h) (fun o' wq e hS => exec_bin (u1 := .agg (itA x2)) (u2 := .agg (itA ⟨1, k, ⟨#[]⟩⟩)) wq e (by kernel_rfl) (by kernel_rfl) (guard_item ..) (neq_diff x2 ⟨1, k, ⟨#[]⟩⟩ h2 _)) HS3.out ?_
      refine lastS 29 (.pick (.tmp 37) (.const (Value.bool true)) (.tmp 43)) (some 44) (.bool true) (by kernel_rfl) (by kernel_rfl) (by kernel_rfl) HS3.out (fun o' e => exec_pick (b := false) _ e (by kernel_rfl) (by kernel_rfl)) ?_
      simp only [put_some, put_none, List.setIfInBounds_toArray, List.set_cons_succ, List.set_cons_zero]
      have HB0 : Hid (Below w1.heap.size w1 y3) := HS3
      clear HS0
      go_wp2_with fail
      go_meet
      exact ⟨true, rfl, Lib.hid (.inl ⟨rfl, HNG.out⟩), HB0⟩
    have HGD : Hid (Gd L b k x3 x4) := Lib.hid ⟨HUE.out.symm.trans hE, by rw [HLL.out, h0, h1, h2]⟩
    refine region_anyZ (fun W => Below w1.heap.size w1 W) 30 (by kernel_rfl) ?_
    refine takeG 0 (.move (.tmp 9)) (some 15) none (.int .i64 ue) (by kernel_rfl) (by kernel_rfl) (by kernel_rfl) (fun _ _ _ h => h) (fun o' wq e hS => exec_move wq e (by kernel_rfl)) HS0.out ?_
    refine takeG 1 (.binOp .neq 26 (.tmp 15) (.const (.int .i64 0)) 26) (some 16) none (.bool false) (by kernel_rfl) (by kernel_rfl) (by kernel_rfl) (fun _ _ _ h => h) (fun o' wq e hS => exec_bin (u1 := .int .i64 ue) (u2 := (.int .i64 0)) wq e (by kernel_rfl) (by kernel_rfl) (eqG_int ..) (ne_zeroE hE _)) HS0.out ?_
    refine takeG 2 (.move (.tmp 16)) (some 17) none (.bool false) (by kernel_rfl) (by kernel_rfl) (by kernel_rfl) (fun _ _ _ h => h) (fun o' wq e hS => exec_move wq e (by kernel_rfl)) HS0.out ?_
    refine takeG 3 (.move (.tmp 8)) (some 18) (some (2, false)) (.slice A1 n1 c1) (by kernel_rfl) (by kernel_rfl) (by kernel_rfl) (fun _ _ _ h => h) (fun o' wq e hS => exec_move wq e (by kernel_rfl)) HS0.out ?_
    refine takeG 4 (.call ⟨.builtin .len, #[(.tmp 18)], #[84]⟩) (some 19) (some (2, false)) (.int .i64 (n1 : Int)) (by kernel_rfl) (by kernel_rfl) (by kernel_rfl) (fun _ _ _ h => h) (fun o' wq e hS => exec_len (u := .slice A1 n1 c1) wq e (by kernel_rfl) (by kernel_rfl)) HS0.out ?_
    refine takeG 5 (.binOp .neq 3 (.tmp 19) (.const (.int .i64 5)) 3) (some 20) (some (2, false)) (.bool false) (by kernel_rfl) (by kernel_rfl) (by kernel_rfl) (fun _ _ _ h => h) (fun o' wq e hS => exec_bin (u1 := .int .i64 (n1 : Int)) (u2 := (.int .i64 5)) wq e (by kernel_rfl) (by kernel_rfl) (eqG_int ..) (neq_intF h5 _)) HS0.out ?_
    refine takeG 6 (.pick (.tmp 17) (.const (Value.bool true)) (.tmp 20)) (some 21) none (.bool false) (by kernel_rfl) (by kernel_rfl) (by kernel_rfl) (fun _ _ _ h => h) (fun o' wq e hS => exec_pick (b := false) wq e (by kernel_rfl) (by kernel_rfl)) HS0.out ?_
    refine takeG 7 (.move (.tmp 21)) (some 22) none (.bool false) (by kernel_rfl) (by kernel_rfl) (by kernel_rfl) (fun _ _ _ h => h) (fun o' wq e hS => exec_move wq e (by kernel_rfl)) HS0.out ?_
    refine takeG 8 (.move (.tmp 8)) (some 23) (some (7, false)) (.slice A1 n1 c1) (by kernel_rfl) (by kernel_rfl) (by kernel_rfl) (fun _ _ _ h => h) (fun o' wq e hS => exec_move wq e (by kernel_rfl)) HS0.out ?_
    refine takeG 9 (.indexAddr 84 (.tmp 23) (.const (.int .i64 0))) (some 24) (some (7, false)) (.pointer (some ⟨gl, ol + 0 * 3, none⟩)) (by kernel_rfl) (by kernel_rfl) (by kernel_rfl) (fun _ _ _ h => h) (fun o' wq e hS => exec_index (u1 := .slice A1 n1 c1) (u2 := (.int .i64 0)) wq e (by kernel_rfl) (by kernel_rfl) (idxA hA h5 0 (by omega) _)) HS0.out ?_
    refine takeG 10 (.load 81 (.tmp 24)) (some 25) (some (7, false)) (.agg (itA x0)) (by kernel_rfl) (by kernel_rfl) (by kernel_rfl) (fun _ _ _ h => h) (fun o' wq e hS => exec_load (x := (.tmp 24)) e (by kernel_rfl) (HLD.out wq hS 0 _ rfl)) HS0.out ?_
    refine loneG 11 (.call ⟨.value (.func 36), #[(.const (.int .i64 55))], #[3]⟩) (some 26) (some (7, false)) (by kernel_rfl) (by kernel_rfl) (by kernel_rfl) ?_
    intro o' ho hod
    refine wp_callC (f := 36) (args := #[.int .i64 55]) (by cases o'; cases ho; kernel_rfl) (number_it 55 _) ?_
    rintro e y1 ⟨rfl, by1⟩
    refine ⟨_, rfl, ?_⟩
    rw [hod]
    clear hod ho
    have HS1 : Hid (Below w1.heap.size w1 y1) := Lib.hid (tr_ HS0.out by1)
    clear by1
    refine ⟨fun _ => HS1.out, ?_⟩
    refine takeG 12 (.binOp .neq 81 (.tmp 25) (.tmp 26) 81) (some 27) (some (7, false)) (.bool false) (by kernel_rfl) (by kernel_rfl) (by kernel_rfl) (fun _ _ _ h => h) (fun o' wq e hS => exec_bin (u1 := .agg (itA x0)) (u2 := .agg (itA ⟨1, 55, ⟨#[]⟩⟩)) wq e (by kernel_rfl) (by kernel_rfl) (guard_item ..) (neq_it h0 _)) HS1.out ?_
    refine takeG 13 (.pick (.tmp 22) (.const (Value.bool true)) (.tmp 27)) (some 28) none (.bool false) (by kernel_rfl) (by kernel_rfl) (by kernel_rfl) (fun _ _ _ h => h) (fun o' wq e hS => exec_pick (b := false) wq e (by kernel_rfl) (by kernel_rfl)) HS1.out ?_
    refine takeG 14 (.move (.tmp 28)) (some 29) none (.bool false) (by kernel_rfl) (by kernel_rfl) (by kernel_rfl) (fun _ _ _ h => h) (fun o' wq e hS => exec_move wq e (by kernel_rfl)) HS1.out ?_
    refine takeG 15 (.move (.tmp 8)) (some 30) (some (14, false)) (.slice A1 n1 c1) (by kernel_rfl) (by kernel_rfl) (by kernel_rfl) (fun _ _ _ h => h) (fun o' wq e hS => exec_move wq e (by kernel_rfl)) HS1.out ?_
    refine takeG 16 (.indexAddr 84 (.tmp 30) (.const (.int .i64 1))) (some 31) (some (14, false)) (.pointer (some ⟨gl, ol + 1 * 3, none⟩)) (by kernel_rfl) (by kernel_rfl) (by kernel_rfl) (fun _ _ _ h => h) (fun o' wq e hS => exec_index (u1 := .slice A1 n1 c1) (u2 := (.int .i64 1)) wq e (by kernel_rfl) (by kernel_rfl) (idxA hA h5 1 (by omega) _)) HS1.out ?_
    refine takeG 17 (.load 81 (.tmp 31)) (some 32) (some (14, false)) (.agg (itA x1)) (by kernel_rfl) (by kernel_rfl) (by kernel_rfl) (fun _ _ _ h => h) (fun o' wq e hS => exec_load (x := (.tmp 31)) e (by kernel_rfl) (HLD.out wq hS 1 _ rfl)) HS1.out ?_
    refine takeG 18 (.move (.tmp 1)) (some 33) (some (14, false)) (.int .i64 b) (by kernel_rfl) (by kernel_rfl) (by kernel_rfl) (fun _ _ _ h => h) (fun o' wq e hS => exec_move wq e (by kernel_rfl)) HS1.out ?_
    refine loneG 19 (.call ⟨.value (.func 36), #[(.tmp 33)], #[3]⟩) (some 34) (some (14, false)) (by kernel_rfl) (by kernel_rfl) (by kernel_rfl) ?_
    intro o' ho hod
    refine wp_callC (f := 36) (args := #[.int .i64 b]) (by cases o'; cases ho; kernel_rfl) (number_it b _) ?_
    rintro e y2 ⟨rfl, by2⟩
    refine ⟨_, rfl, ?_⟩
    rw [hod]
    clear hod ho
    have HS2 : Hid (Below w1.heap.size w1 y2) := Lib.hid (tr_ HS1.out by2)
    clear by2
    refine ⟨fun _ => HS2.out, ?_⟩
    refine takeG 20 (.binOp .neq 81 (.tmp 32) (.tmp 34) 81) (some 35) (some (14, false)) (.bool false) (by kernel_rfl) (by kernel_rfl) (by kernel_rfl) (fun _ _ _ h => h) (fun o' wq e hS => exec_bin (u1 := .agg (itA x1)) (u2 := .agg (itA ⟨1, b, ⟨#[]⟩⟩)) wq e (by kernel_rfl) (by kernel_rfl) (guard_item ..) (neq_it h1 _)) HS2.out ?_
    refine takeG 21 (.pick (.tmp 29) (.const (Value.bool true)) (.tmp 35)) (some 36) none (.bool false) (by kernel_rfl) (by kernel_rfl) (by kernel_rfl) (fun _ _ _ h => h) (fun o' wq e hS => exec_pick (b := false) wq e (by kernel_rfl) (by kernel_rfl)) HS2.out ?_
    refine takeG 22 (.move (.tmp 36)) (some 37) none (.bool false) (by kernel_rfl) (by kernel_rfl) (by kernel_rfl) (fun _ _ _ h => h) (fun o' wq e hS => exec_move wq e (by kernel_rfl)) HS2.out ?_
    refine takeG 23 (.move (.tmp 8)) (some 38) (some (22, false)) (.slice A1 n1 c1) (by kernel_rfl) (by kernel_rfl) (by kernel_rfl) (fun _ _ _ h => h) (fun o' wq e hS => exec_move wq e (by kernel_rfl)) HS2.out ?_
    refine takeG 24 (.indexAddr 84 (.tmp 38) (.const (.int .i64 2))) (some 39) (some (22, false)) (.pointer (some ⟨gl, ol + 2 * 3, none⟩)) (by kernel_rfl) (by kernel_rfl) (by kernel_rfl) (fun _ _ _ h => h) (fun o' wq e hS => exec_index (u1 := .slice A1 n1 c1) (u2 := (.int .i64 2)) wq e (by kernel_rfl) (by kernel_rfl) (idxA hA h5 2 (by omega) _)) HS2.out ?_
    refine takeG 25 (.load 81 (.tmp 39)) (some 40) (some (22, false)) (.agg (itA x2)) (by kernel_rfl) (by kernel_rfl) (by kernel_rfl) (fun _ _ _ h => h) (fun o' wq e hS => exec_load (x := (.tmp 39)) e (by kernel_rfl) (HLD.out wq hS 2 _ rfl)) HS2.out ?_
    refine takeG 26 (.move (.tmp 2)) (some 41) (some (22, false)) (.int .i64 k) (by kernel_rfl) (by kernel_rfl) (by kernel_rfl) (fun _ _ _ h => h) (fun o' wq e hS => exec_move wq e (by kernel_rfl)) HS2.out ?_
    refine loneG 27 (.call ⟨.value (.func 36), #[(.tmp 41)], #[3]⟩) (some 42) (some (22, false)) (by kernel_rfl) (by kernel_rfl) (by kernel_rfl) ?_
    intro o' ho hod
    refine wp_callC (f := 36) (args := #[.int .i64 k]) (by cases o'; cases ho; kernel_rfl) (number_it k _) ?_
    rintro e y3 ⟨rfl, by3⟩
    refine ⟨_, rfl, ?_⟩
    rw [hod]
    clear hod ho
    have HS3 : Hid (Below w1.heap.size w1 y3) := Lib.hid (tr_ HS2.out by3)
    clear by3
    refine ⟨fun _ => HS3.out, ?_⟩
    refine takeG 28 (.binOp .neq 81 (.tmp 40) (.tmp 42) 81) (some 43) (some (22, false)) (.bool false) (by kernel_rfl) (by kernel_rfl) (by kernel_rfl) (fun _ _ _ h => h) (fun o' wq e hS => exec_bin (u1 := .agg (itA x2)) (u2 := .agg (itA ⟨1, k, ⟨#[]⟩⟩)) wq e (by kernel_rfl) (by kernel_rfl) (guard_item ..) (neq_it h2 _)) HS3.out ?_
    refine lastS 29 (.pick (.tmp 37) (.const (Value.bool true)) (.tmp 43)) (some 44) (.bool false) (by kernel_rfl) (by kernel_rfl) (by kernel_rfl) HS3.out (fun o' e => exec_pick (b := false) _ e (by kernel_rfl) (by kernel_rfl)) ?_
    simp only [put_some, put_none, List.setIfInBounds_toArray, List.set_cons_succ, List.set_cons_zero]
    have HB0 : Hid (Below w1.heap.size w1 y3) := HS3
    go_wp2_with fail
    go_meet
    exact ⟨false, rfl, Lib.hid (.inr ⟨rfl, x3, x4, HGD.out⟩), HB0⟩
  case rest =>
    obtain ⟨bb, hs, hor, HW2⟩ := hcut
    subst hs
    obtain ⟨w2, hw2⟩ : ∃ w2, w2 = wc := ⟨_, rfl⟩
    subst hw2
    have L2 := Lib.hid (L1.out.trans (HW2.out.mono L1.out.size))
    have HX : Hid (Blk w2 g6 59 #[.bool false, .string ⟨#[]⟩]) := Lib.hid ((HW2.out.block g6 X1.out.lt).trans X1.out)
    clear HS0
    rcases hor.out with ⟨rfl, hno⟩ | ⟨rfl, x3, x4, hgd⟩
    · have HNO : Hid (∀ p, ¬ Is L b k p) := Lib.hid fun p hp => hno _ _ (Gd.of hp)
      clear hno hor
      have z := HX.out
      have d0 := z.cell 0
      have d1 := z.cell 1
      have e0 := z.frozen 0
      have e1 := z.frozen 1
      simp only [List.getElem?_toArray, List.getElem?_cons_zero, List.getElem?_cons_succ] at d0 d1
      have HZ := Lib.hid z
      clear z
      go_wp2_with fail
      refine bodyPost_ret (results_cell2 rfl rfl (loadVar_blk ((HZ.out.set_ 0 (.bool false)).set_ 1 (.string ⟨#[]⟩)) Tryd.underlying59 rfl isize_piece) rfl) rfl ?_
      exact ⟨.inr ⟨HNO.out, rfl⟩, (L2.out.setCell (p := ⟨g6, 0, none⟩) HG6.out _).setCell (p := ⟨g6, 1, none⟩) HG6.out _⟩
    · have HGD := Lib.hid hgd
      obtain rfl : n1 = 5 := by rw [HN1.out, hgd.2]; rfl
      rw [hgd.2] at r1
      obtain ⟨gl, ol, hA, hgl, _⟩ := r1 0 _ rfl
      subst hA
      have hLD : ∀ W', Below w1.heap.size w1 W' → ∀ j x, ([⟨1, 55, ⟨#[]⟩⟩, ⟨1, b, ⟨#[]⟩⟩, ⟨1, k, ⟨#[]⟩⟩, x3, x4] : List K.It)[j]? = some x → W'.cell? ⟨gl, ol + j * 3, none⟩ = some (.int .i64 x.k) ∧ W'.cell? ⟨gl, ol + j * 3 + 1, none⟩ = some (.int .i64 x.n) ∧ W'.cell? ⟨gl, ol + j * 3 + 2, none⟩ = some (.string x.s) := fun W' hw j x hj => by
        obtain ⟨b', o', hA', hb', a0, a1, a2⟩ := r1 j x hj
        injection hA' with hA'
        injection hA' with q1 q2
        subst q1 q2
        exact ⟨(hw.cell (p := ⟨gl, ol + j * 3, none⟩) hgl).trans a0, (hw.cell (p := ⟨gl, ol + j * 3 + 1, none⟩) hgl).trans a1, (hw.cell (p := ⟨gl, ol + j * 3 + 2, none⟩) hgl).trans a2⟩
      have HLC := Lib.hid hLD
      have HLD : Hid (∀ W', Below w2.heap.size w2 W' → ∀ j x, ([⟨1, 55, ⟨#[]⟩⟩, ⟨1, b, ⟨#[]⟩⟩, ⟨1, k, ⟨#[]⟩⟩, x3, x4] : List K.It)[j]? = some x → (Instr.loadAt 81 (.pointer (some ⟨gl, ol + j * 3, none⟩))).run Tryd.prog W' = .ok (.agg (itA x)) W') := Lib.hid fun W' hw j x hj => by
        obtain ⟨a0, a1, a2⟩ := HLC.out W' (tr_ HW2.out hw) j x hj
        exact load_item a0 a1 a2
      have HLS : Hid (∀ W', Below w2.heap.size w2 W' → (Instr.loadAt 9 (.pointer (some ⟨gl, ol + 4 * 3 + 2, none⟩))).run Tryd.prog W' = .ok (.string x4.s) W') := Lib.hid fun W' hw => str_at (HLC.out W' (tr_ HW2.out hw) 4 x4 rfl).2.2
      clear hLD hgd hor r1 lc1
      go_upto_region 4 with (fail)
      have HS0 : Hid (Below w2.heap.size w2 w2.drew) := Lib.hid (Below.refl _ _).drew
      by_cases h3 : x3 = ⟨1, 1, ⟨#[]⟩⟩
      · refine region_anyZ (fun W => Below w2.heap.size w2 W) 10 (by kernel_rfl) ?_
        refine takeG 0 (.move (.tmp 8)) (some 46) none (.slice (some ⟨gl, ol, none⟩) 5 c1) (by kernel_rfl) (by kernel_rfl) (by kernel_rfl) (fun _ _ _ h => h) (fun o' wq e hS => exec_move wq e (by kernel_rfl)) HS0.out ?_
        refine takeG 1 (.indexAddr 84 (.tmp 46) (.const (.int .i64 3))) (some 47) none (.pointer (some ⟨gl, ol + 3 * 3, none⟩)) (by kernel_rfl) (by kernel_rfl) (by kernel_rfl) (fun _ _ _ h => h) (fun o' wq e hS => exec_index (u1 := .slice (some ⟨gl, ol, none⟩) 5 c1) (u2 := (.int .i64 3)) wq e (by kernel_rfl) (by kernel_rfl) (idx5 gl ol c1 3 (by omega) _)) HS0.out ?_
        refine takeG 2 (.load 81 (.tmp 47)) (some 48) none (.agg (itA x3)) (by kernel_rfl) (by kernel_rfl) (by kernel_rfl) (fun _ _ _ h => h) (fun o' wq e hS => exec_load (x := (.tmp 47)) e (by kernel_rfl) (HLD.out wq hS 3 _ rfl)) HS0.out ?_
        refine takeG 5 (.move (.tmp 8)) (some 51) none (.slice (some ⟨gl, ol, none⟩) 5 c1) (by kernel_rfl) (by kernel_rfl) (by kernel_rfl) (fun _ _ _ h => h) (fun o' wq e hS => exec_move wq e (by kernel_rfl)) HS0.out ?_
        refine takeG 6 (.indexAddr 84 (.tmp 51) (.const (.int .i64 4))) (some 52) none (.pointer (some ⟨gl, ol + 4 * 3, none⟩)) (by kernel_rfl) (by kernel_rfl) (by kernel_rfl) (fun _ _ _ h => h) (fun o' wq e hS => exec_index (u1 := .slice (some ⟨gl, ol, none⟩) 5 c1) (u2 := (.int .i64 4)) wq e (by kernel_rfl) (by kernel_rfl) (idx5 gl ol c1 4 (by omega) _)) HS0.out ?_
        refine takeG 7 (.fieldAddr 81 (.tmp 52) 2) (some 53) none (.pointer (some ⟨gl, ol + 4 * 3 + 2, none⟩)) (by kernel_rfl) (by kernel_rfl) (by kernel_rfl) (fun _ _ _ h => h) (fun o' wq e hS => exec_field (u := .pointer (some ⟨gl, ol + 4 * 3, none⟩)) wq e (by kernel_rfl) (by kernel_rfl)) HS0.out ?_
        refine takeG 8 (.load 9 (.tmp 53)) (some 54) none (.string x4.s) (by kernel_rfl) (by kernel_rfl) (by kernel_rfl) (fun _ _ _ h => h) (fun o' wq e hS => exec_load (x := (.tmp 53)) e (by kernel_rfl) (HLS.out wq hS)) HS0.out ?_
        refine loneG 3 (.call ⟨.value (.func 36), #[(.const (.int .i64 1))], #[3]⟩) (some 49) none (by kernel_rfl) (by kernel_rfl) (by kernel_rfl) ?_
        intro o' ho hod
        refine wp_callC (f := 36) (args := #[.int .i64 1]) (by cases o'; cases ho; kernel_rfl) (number_it 1 _) ?_
        rintro e y1 ⟨rfl, by1⟩
        refine ⟨_, rfl, ?_⟩
        rw [hod]
        clear hod ho
        have HS1 : Hid (Below w2.heap.size w2 y1) := Lib.hid (tr_ HS0.out by1)
        clear by1
        refine ⟨fun _ => HS1.out, ?_⟩
        refine takeG 4 (.binOp .eql 81 (.tmp 48) (.tmp 49) 81) (some 50) none (.bool true) (by kernel_rfl) (by kernel_rfl) (by kernel_rfl) (fun _ _ _ h => h) (fun o' wq e hS => exec_bin (u1 := .agg (itA x3)) (u2 := .agg (itA ⟨1, 1, ⟨#[]⟩⟩)) wq e (by kernel_rfl) (by kernel_rfl) (guard_item ..) (eql_it h3 _)) HS1.out ?_
        refine takeG 9 (.build 59 #[(0, (.tmp 50)), (1, (.tmp 54))]) (some 55) none (.agg #[.bool true, .string x4.s]) (by kernel_rfl) (by kernel_rfl) (by kernel_rfl) (fun _ _ _ h => h) (fun o' wq e hS => exec_bld2 (u0 := .bool true) (u1 := .string x4.s) wq e (by kernel_rfl) (by kernel_rfl) (by kernel_rfl)) HS1.out ?_
        have HX1 : Hid (Blk y1 g6 59 #[.bool false, .string ⟨#[]⟩]) := Lib.hid ((HS1.out.block g6 HX.out.lt).trans HX.out)
        obtain ⟨w5, hst, hb5, hg5, hz5⟩ := store_blk (cs' := #[.bool true, .string x4.s]) HX1.out isize_piece rfl (by simp [Value.oneCell'])
        refine lastStore 10 59 (.tmp 6) (.tmp 55) (.pointer (some ⟨g6, 0, none⟩)) (.agg #[.bool true, .string x4.s]) _ (by kernel_rfl) (by kernel_rfl) (by kernel_rfl) rfl (by kernel_rfl) (by kernel_rfl) hst ?_
        simp only [put_some, put_none, List.setIfInBounds_toArray, List.set_cons_succ, List.set_cons_zero]
        have HB5 : Hid (Below w2.heap.size w2 w5 ∨ True) := Lib.hid (.inr trivial)
        have L5 : Hid (Below w.heap.size w w5) := Lib.hid ((L2.out.trans (HS1.out.mono L2.out.size)).grown hg5 (Nat.le_trans L2.out.size HS1.out.size) (fun g' hg' => by injection hg' with hg'; rw [← hg']; exact HG6.out))
        have HX5 := Lib.hid hb5
        have hne : gl ≠ g6 := fun e => by
          have h1 := (HLC.out w1 (Below.refl _ _) 0 _ rfl).1
          rw [e] at h1
          have h2 := X1.out.cell (ol + 0 * 3)
          rw [h2] at h1
          match hq : ol + 0 * 3, h1 with
          | 0, h1 => simp at h1
          | 1, h1 => simp at h1
          | n + 2, h1 => simp at h1
        have hcl : ∀ W', Below w5.heap.size w5 W' → ∀ i v, w2.cell? ⟨gl, i, none⟩ = some v → W'.cell? ⟨gl, i, none⟩ = some v := fun W' hw i v hv => by
          have hgl2 : gl < w2.heap.size := Nat.lt_of_lt_of_le hgl HW2.out.size
          have hgly : gl < y1.heap.size := Nat.lt_of_lt_of_le hgl2 HS1.out.size
          have e1 : y1.cell? ⟨gl, i, none⟩ = w2.cell? ⟨gl, i, none⟩ := HS1.out.cell (p := ⟨gl, i, none⟩) hgl2
          have e2 : w5.cell? ⟨gl, i, none⟩ = y1.cell? ⟨gl, i, none⟩ := World.cell?_of_block (hg5.block gl hgly (fun e => hne (by injection e)))
          have e3 : W'.cell? ⟨gl, i, none⟩ = w5.cell? ⟨gl, i, none⟩ := hw.cell (p := ⟨gl, i, none⟩) (Nat.lt_of_lt_of_le hgly hg5.size)
          rw [e3, e2, e1]
          exact hv
        have HLD5 : Hid (∀ W', Below w5.heap.size w5 W' → ∀ j x, ([⟨1, 55, ⟨#[]⟩⟩, ⟨1, b, ⟨#[]⟩⟩, ⟨1, k, ⟨#[]⟩⟩, x3, x4] : List K.It)[j]? = some x → (Instr.loadAt 81 (.pointer (some ⟨gl, ol + j * 3, none⟩))).run Tryd.prog W' = .ok (.agg (itA x)) W') := Lib.hid fun W' hw j x hj => by
          obtain ⟨a0, a1, a2⟩ := HLC.out w2 HW2.out j x hj
          exact load_item (hcl W' hw _ _ a0) (hcl W' hw _ _ a1) (hcl W' hw _ _ a2)
        have HLP : Hid (∀ W', Below w5.heap.size w5 W' → (Instr.loadAt 4 (.pointer (some ⟨g6, 0, none⟩))).run Tryd.prog W' = .ok (.bool true) W' ∧ (Instr.loadAt 9 (.pointer (some ⟨g6, 1, none⟩))).run Tryd.prog W' = .ok (.string x4.s) W') := Lib.hid fun W' hw => ⟨load_one Tryd.underlying4 (by kernel_rfl) ((hw.cell (p := ⟨g6, 0, none⟩) HX5.out.lt).trans (HX5.out.cell 0)), str_at ((hw.cell (p := ⟨g6, 1, none⟩) HX5.out.lt).trans (HX5.out.cell 1))⟩
        clear HLD HS0 HS1 hst hb5 hg5 hz5 hne hcl HB5 HX1
        have HLD := HLD5
        clear HLD5
        go_upto_region 5 with (fail)
        have HS0 : Hid (Below w5.heap.size w5 w5.drew) := Lib.hid (Below.refl _ _).drew
        by_cases h4 : x4 = ⟨2, 0, x4.s⟩
        rotate_left
        · refine region_anyZ (fun W => Below w5.heap.size w5 W) 25 (by kernel_rfl) ?_
          refine takeG 0 (.fieldAddr 59 (.tmp 6) 0) (some 56) none (.pointer (some ⟨g6, 0, none⟩)) (by kernel_rfl) (by kernel_rfl) (by kernel_rfl) (fun _ _ _ h => h) (fun o' wq e hS => exec_field (u := .pointer (some ⟨g6, 0, none⟩)) wq e (by kernel_rfl) (by kernel_rfl)) HS0.out ?_
          refine takeG 1 (.load 4 (.tmp 56)) (some 57) none (.bool true) (by kernel_rfl) (by kernel_rfl) (by kernel_rfl) (fun _ _ _ h => h) (fun o' wq e hS => exec_load (x := (.tmp 56)) e (by kernel_rfl) (HLP.out wq hS).1) HS0.out ?_
          refine takeG 2 (.unOp .not 4 (.tmp 57)) (some 58) none (.bool false) (by kernel_rfl) (by kernel_rfl) (by kernel_rfl) (fun _ _ _ h => h) (fun o' wq e hS => exec_un (u := .bool true) wq e (by kernel_rfl) (by kernel_rfl)) HS0.out ?_
          refine takeG 3 (.move (.tmp 58)) (some 59) none (.bool false) (by kernel_rfl) (by kernel_rfl) (by kernel_rfl) (fun _ _ _ h => h) (fun o' wq e hS => exec_move wq e (by kernel_rfl)) HS0.out ?_
          refine takeSkip 4 (.move (.tmp 8)) (some 60) (some (3, true)) (by kernel_rfl) (by kernel_rfl) (by kernel_rfl) (fun _ _ _ h => h) HS0.out ?_
          refine takeSkip 5 (.indexAddr 84 (.tmp 60) (.const (.int .i64 3))) (some 61) (some (3, true)) (by kernel_rfl) (by kernel_rfl) (by kernel_rfl) (fun _ _ _ h => h) HS0.out ?_
          refine takeSkip 6 (.load 81 (.tmp 61)) (some 62) (some (3, true)) (by kernel_rfl) (by kernel_rfl) (by kernel_rfl) (fun _ _ _ h => h) HS0.out ?_
          refine takeSkip 7 (.call ⟨.value (.func 36), #[(.const (.int .i64 0))], #[3]⟩) (some 63) (some (3, true)) (by kernel_rfl) (by kernel_rfl) (by kernel_rfl) (fun _ _ _ h => h) HS0.out ?_
          refine takeSkip 8 (.binOp .neq 81 (.tmp 62) (.tmp 63) 81) (some 64) (some (3, true)) (by kernel_rfl) (by kernel_rfl) (by kernel_rfl) (fun _ _ _ h => h) HS0.out ?_
          refine takeG 9 (.pick (.tmp 59) (.tmp 64) (.const (Value.bool false))) (some 65) none (.bool false) (by kernel_rfl) (by kernel_rfl) (by kernel_rfl) (fun _ _ _ h => h) (fun o' wq e hS => exec_pick (b := false) wq e (by kernel_rfl) (by kernel_rfl)) HS0.out ?_
          refine takeG 10 (.move (.tmp 65)) (some 66) none (.bool false) (by kernel_rfl) (by kernel_rfl) (by kernel_rfl) (fun _ _ _ h => h) (fun o' wq e hS => exec_move wq e (by kernel_rfl)) HS0.out ?_
          refine takeG 11 (.move (.tmp 8)) (some 67) (some (10, false)) (.slice (some ⟨gl, ol, none⟩) 5 c1) (by kernel_rfl) (by kernel_rfl) (by kernel_rfl) (fun _ _ _ h => h) (fun o' wq e hS => exec_move wq e (by kernel_rfl)) HS0.out ?_
          refine takeG 12 (.indexAddr 84 (.tmp 67) (.const (.int .i64 4))) (some 68) (some (10, false)) (.pointer (some ⟨gl, ol + 4 * 3, none⟩)) (by kernel_rfl) (by kernel_rfl) (by kernel_rfl) (fun _ _ _ h => h) (fun o' wq e hS => exec_index (u1 := .slice (some ⟨gl, ol, none⟩) 5 c1) (u2 := (.int .i64 4)) wq e (by kernel_rfl) (by kernel_rfl) (idx5 gl ol c1 4 (by omega) _)) HS0.out ?_
          refine takeG 13 (.load 81 (.tmp 68)) (some 69) (some (10, false)) (.agg (itA x4)) (by kernel_rfl) (by kernel_rfl) (by kernel_rfl) (fun _ _ _ h => h) (fun o' wq e hS => exec_load (x := (.tmp 68)) e (by kernel_rfl) (HLD.out wq hS 4 _ rfl)) HS0.out ?_
          refine takeG 14 (.fieldAddr 59 (.tmp 6) 1) (some 70) (some (10, false)) (.pointer (some ⟨g6, 1, none⟩)) (by kernel_rfl) (by kernel_rfl) (by kernel_rfl) (fun _ _ _ h => h) (fun o' wq e hS => exec_field (u := .pointer (some ⟨g6, 0, none⟩)) wq e (by kernel_rfl) (by kernel_rfl)) HS0.out ?_
          refine takeG 15 (.load 9 (.tmp 70)) (some 71) (some (10, false)) (.string x4.s) (by kernel_rfl) (by kernel_rfl) (by kernel_rfl) (fun _ _ _ h => h) (fun o' wq e hS => exec_load (x := (.tmp 70)) e (by kernel_rfl) (HLP.out wq hS).2) HS0.out ?_
          refine loneG 16 (.call ⟨.value (.func 37), #[(.tmp 71)], #[9]⟩) (some 72) (some (10, false)) (by kernel_rfl) (by kernel_rfl) (by kernel_rfl) ?_
          intro o' ho hod
          refine wp_callC (f := 37) (args := #[.string x4.s]) (by cases o'; cases ho; kernel_rfl) (text_it x4.s _) ?_
          rintro e y1 ⟨rfl, by1⟩
          refine ⟨_, rfl, ?_⟩
          rw [hod]
          clear hod ho
          have HS1 : Hid (Below w5.heap.size w5 y1) := Lib.hid (tr_ HS0.out by1)
          clear by1
          refine ⟨fun _ => HS1.out, ?_⟩
          refine takeG 17 (.binOp .neq 81 (.tmp 69) (.tmp 72) 81) (some 73) (some (10, false)) (.bool true) (by kernel_rfl) (by kernel_rfl) (by kernel_rfl) (fun _ _ _ h => h) (fun o' wq e hS => exec_bin (u1 := .agg (itA x4)) (u2 := .agg (itA ⟨2, 0, x4.s⟩)) wq e (by kernel_rfl) (by kernel_rfl) (guard_item ..) (neq_diff x4 ⟨2, 0, x4.s⟩ h4 _)) HS1.out ?_
          refine takeG 18 (.pick (.tmp 66) (.const (Value.bool true)) (.tmp 73)) (some 74) none (.bool true) (by kernel_rfl) (by kernel_rfl) (by kernel_rfl) (fun _ _ _ h => h) (fun o' wq e hS => exec_pick (b := false) wq e (by kernel_rfl) (by kernel_rfl)) HS1.out ?_
          refine takeG 19 (.move (.tmp 74)) (some 75) none (.bool true) (by kernel_rfl) (by kernel_rfl) (by kernel_rfl) (fun _ _ _ h => h) (fun o' wq e hS => exec_move wq e (by kernel_rfl)) HS1.out ?_
          refine takeSkip 20 (.fieldAddr 59 (.tmp 6) 1) (some 76) (some (19, false)) (by kernel_rfl) (by kernel_rfl) (by kernel_rfl) (fun _ _ _ h => h) HS1.out ?_
          refine takeSkip 21 (.load 9 (.tmp 76)) (some 77) (some (19, false)) (by kernel_rfl) (by kernel_rfl) (by kernel_rfl) (fun _ _ _ h => h) HS1.out ?_
          refine takeSkip 22 (.call ⟨.builtin .len, #[(.tmp 77)], #[9]⟩) (some 78) (some (19, false)) (by kernel_rfl) (by kernel_rfl) (by kernel_rfl) (fun _ _ _ h => h) HS1.out ?_
          refine takeSkip 23 (.binOp .gtr 3 (.tmp 78) (.const (.int .i64 56)) 3) (some 79) (some (19, false)) (by kernel_rfl) (by kernel_rfl) (by kernel_rfl) (fun _ _ _ h => h) HS1.out ?_
          refine lastS 24 (.pick (.tmp 75) (.const (Value.bool true)) (.tmp 79)) (some 80) (.bool true) (by kernel_rfl) (by kernel_rfl) (by kernel_rfl) HS1.out (fun o' e => exec_pick (b := true) _ e (by kernel_rfl) (by kernel_rfl)) ?_
          simp only [put_some, put_none, List.setIfInBounds_toArray, List.set_cons_succ, List.set_cons_zero]
          have L6 : Hid (Below w.heap.size w y1) := Lib.hid (L5.out.trans (HS1.out.mono L5.out.size))
          have HX6 : Hid (Blk y1 g6 59 #[.bool true, .string x4.s]) := Lib.hid ((HS1.out.block g6 HX5.out.lt).trans HX5.out)
          have HNO : Hid (∀ p, ¬ Is L b k p) := Lib.hid fun p hp => by
            obtain ⟨e3, e4⟩ := HGD.out.one (Gd.of hp)
            exact h4 (by rw [e4])
          clear HS0
          have z := HX6.out
          have d0 := z.cell 0
          have d1 := z.cell 1
          have e0 := z.frozen 0
          have e1 := z.frozen 1
          simp only [List.getElem?_toArray, List.getElem?_cons_zero, List.getElem?_cons_succ] at d0 d1
          have HZ := Lib.hid z
          clear z
          go_wp2_with fail
          refine bodyPost_ret (results_cell2 rfl rfl (loadVar_blk ((HZ.out.set_ 0 (.bool false)).set_ 1 (.string ⟨#[]⟩)) Tryd.underlying59 rfl isize_piece) rfl) rfl ?_
          exact ⟨.inr ⟨HNO.out, rfl⟩, (L6.out.setCell (p := ⟨g6, 0, none⟩) HG6.out _).setCell (p := ⟨g6, 1, none⟩) HG6.out _⟩
        by_cases h5 : x4.s.size ≤ 56
        rotate_left
        · replace h5 : 56 < x4.s.size := by omega
          refine region_anyZ (fun W => Below w5.heap.size w5 W) 25 (by kernel_rfl) ?_
          refine takeG 0 (.fieldAddr 59 (.tmp 6) 0) (some 56) none (.pointer (some ⟨g6, 0, none⟩)) (by kernel_rfl) (by kernel_rfl) (by kernel_rfl) (fun _ _ _ h => h) (fun o' wq e hS => exec_field (u := .pointer (some ⟨g6, 0, none⟩)) wq e (by kernel_rfl) (by kernel_rfl)) HS0.out ?_
          refine takeG 1 (.load 4 (.tmp 56)) (some 57) none (.bool true) (by kernel_rfl) (by kernel_rfl) (by kernel_rfl) (fun _ _ _ h => h) (fun o' wq e hS => exec_load (x := (.tmp 56)) e (by kernel_rfl) (HLP.out wq hS).1) HS0.out ?_
          refine takeG 2 (.unOp .not 4 (.tmp 57)) (some 58) none (.bool false) (by kernel_rfl) (by kernel_rfl) (by kernel_rfl) (fun _ _ _ h => h) (fun o' wq e hS => exec_un (u := .bool true) wq e (by kernel_rfl) (by kernel_rfl)) HS0.out ?_
          refine takeG 3 (.move (.tmp 58)) (some 59) none (.bool false) (by kernel_rfl) (by kernel_rfl) (by kernel_rfl) (fun _ _ _ h => h) (fun o' wq e hS => exec_move wq e (by kernel_rfl)) HS0.out ?_
          refine takeSkip 4 (.move (.tmp 8)) (some 60) (some (3, true)) (by kernel_rfl) (by kernel_rfl) (by kernel_rfl) (fun _ _ _ h => h) HS0.out ?_
          refine takeSkip 5 (.indexAddr 84 (.tmp 60) (.const (.int .i64 3))) (some 61) (some (3, true)) (by kernel_rfl) (by kernel_rfl) (by kernel_rfl) (fun _ _ _ h => h) HS0.out ?_
          refine takeSkip 6 (.load 81 (.tmp 61)) (some 62) (some (3, true)) (by kernel_rfl) (by kernel_rfl) (by kernel_rfl) (fun _ _ _ h => h) HS0.out ?_
          refine takeSkip 7 (.call ⟨.value (.func 36), #[(.const (.int .i64 0))], #[3]⟩) (some 63) (some (3, true)) (by kernel_rfl) (by kernel_rfl) (by kernel_rfl) (fun _ _ _ h => h) HS0.out ?_
          refine takeSkip 8 (.binOp .neq 81 (.tmp 62) (.tmp 63) 81) (some 64) (some (3, true)) (by kernel_rfl) (by kernel_rfl) (by kernel_rfl) (fun _ _ _ h => h) HS0.out ?_
          refine takeG 9 (.pick (.tmp 59) (.tmp 64) (.const (Value.bool false))) (some 65) none (.bool false) (by kernel_rfl) (by kernel_rfl) (by kernel_rfl) (fun _ _ _ h => h) (fun o' wq e hS => exec_pick (b := false) wq e (by kernel_rfl) (by kernel_rfl)) HS0.out ?_
          refine takeG 10 (.move (.tmp 65)) (some 66) none (.bool false) (by kernel_rfl) (by kernel_rfl) (by kernel_rfl) (fun _ _ _ h => h) (fun o' wq e hS => exec_move wq e (by kernel_rfl)) HS0.out ?_
          refine takeG 11 (.move (.tmp 8)) (some 67) (some (10, false)) (.slice (some ⟨gl, ol, none⟩) 5 c1) (by kernel_rfl) (by kernel_rfl) (by kernel_rfl) (fun _ _ _ h => h) (fun o' wq e hS => exec_move wq e (by kernel_rfl)) HS0.out ?_
          refine takeG 12 (.indexAddr 84 (.tmp 67) (.const (.int .i64 4))) (some 68) (some (10, false)) (.pointer (some ⟨gl, ol + 4 * 3, none⟩)) (by kernel_rfl) (by kernel_rfl) (by kernel_rfl) (fun _ _ _ h => h) (fun o' wq e hS => exec_index (u1 := .slice (some ⟨gl, ol, none⟩) 5 c1) (u2 := (.int .i64 4)) wq e (by kernel_rfl) (by kernel_rfl) (idx5 gl ol c1 4 (by omega) _)) HS0.out ?_
          refine takeG 13 (.load 81 (.tmp 68)) (some 69) (some (10, false)) (.agg (itA x4)) (by kernel_rfl) (by kernel_rfl) (by kernel_rfl) (fun _ _ _ h => h) (fun o' wq e hS => exec_load (x := (.tmp 68)) e (by kernel_rfl) (HLD.out wq hS 4 _ rfl)) HS0.out ?_
          refine takeG 14 (.fieldAddr 59 (.tmp 6) 1) (some 70) (some (10, false)) (.pointer (some ⟨g6, 1, none⟩)) (by kernel_rfl) (by kernel_rfl) (by kernel_rfl) (fun _ _ _ h => h) (fun o' wq e hS => exec_field (u := .pointer (some ⟨g6, 0, none⟩)) wq e (by kernel_rfl) (by kernel_rfl)) HS0.out ?_
          refine takeG 15 (.load 9 (.tmp 70)) (some 71) (some (10, false)) (.string x4.s) (by kernel_rfl) (by kernel_rfl) (by kernel_rfl) (fun _ _ _ h => h) (fun o' wq e hS => exec_load (x := (.tmp 70)) e (by kernel_rfl) (HLP.out wq hS).2) HS0.out ?_
          refine loneG 16 (.call ⟨.value (.func 37), #[(.tmp 71)], #[9]⟩) (some 72) (some (10, false)) (by kernel_rfl) (by kernel_rfl) (by kernel_rfl) ?_
          intro o' ho hod
          refine wp_callC (f := 37) (args := #[.string x4.s]) (by cases o'; cases ho; kernel_rfl) (text_it x4.s _) ?_
          rintro e y1 ⟨rfl, by1⟩
          refine ⟨_, rfl, ?_⟩
          rw [hod]
          clear hod ho
          have HS1 : Hid (Below w5.heap.size w5 y1) := Lib.hid (tr_ HS0.out by1)
          clear by1
          refine ⟨fun _ => HS1.out, ?_⟩
          refine takeG 17 (.binOp .neq 81 (.tmp 69) (.tmp 72) 81) (some 73) (some (10, false)) (.bool false) (by kernel_rfl) (by kernel_rfl) (by kernel_rfl) (fun _ _ _ h => h) (fun o' wq e hS => exec_bin (u1 := .agg (itA x4)) (u2 := .agg (itA ⟨2, 0, x4.s⟩)) wq e (by kernel_rfl) (by kernel_rfl) (guard_item ..) (neq_it h4 _)) HS1.out ?_
          refine takeG 18 (.pick (.tmp 66) (.const (Value.bool true)) (.tmp 73)) (some 74) none (.bool false) (by kernel_rfl) (by kernel_rfl) (by kernel_rfl) (fun _ _ _ h => h) (fun o' wq e hS => exec_pick (b := false) wq e (by kernel_rfl) (by kernel_rfl)) HS1.out ?_
          refine takeG 19 (.move (.tmp 74)) (some 75) none (.bool false) (by kernel_rfl) (by kernel_rfl) (by kernel_rfl) (fun _ _ _ h => h) (fun o' wq e hS => exec_move wq e (by kernel_rfl)) HS1.out ?_
          refine takeG 20 (.fieldAddr 59 (.tmp 6) 1) (some 76) (some (19, false)) (.pointer (some ⟨g6, 1, none⟩)) (by kernel_rfl) (by kernel_rfl) (by kernel_rfl) (fun _ _ _ h => h) (fun o' wq e hS => exec_field (u := .pointer (some ⟨g6, 0, none⟩)) wq e (by kernel_rfl) (by kernel_rfl)) HS1.out ?_
          refine takeG 21 (.load 9 (.tmp 76)) (some 77) (some (19, false)) (.string x4.s) (by kernel_rfl) (by kernel_rfl) (by kernel_rfl) (fun _ _ _ h => h) (fun o' wq e hS => exec_load (x := (.tmp 76)) e (by kernel_rfl) (HLP.out wq hS).2) HS1.out ?_
          refine takeG 22 (.call ⟨.builtin .len, #[(.tmp 77)], #[9]⟩) (some 78) (some (19, false)) (.int .i64 (x4.s.size : Int)) (by kernel_rfl) (by kernel_rfl) (by kernel_rfl) (fun _ _ _ h => h) (fun o' wq e hS => exec_len (u := .string x4.s) wq e (by kernel_rfl) (by kernel_rfl)) HS1.out ?_
          refine takeG 23 (.binOp .gtr 3 (.tmp 78) (.const (.int .i64 56)) 3) (some 79) (some (19, false)) (.bool true) (by kernel_rfl) (by kernel_rfl) (by kernel_rfl) (fun _ _ _ h => h) (fun o' wq e hS => exec_bin (u1 := .int .i64 (x4.s.size : Int)) (u2 := (.int .i64 56)) wq e (by kernel_rfl) (by kernel_rfl) (eqG_int ..) (gtr_T h5 _)) HS1.out ?_
          refine lastS 24 (.pick (.tmp 75) (.const (Value.bool true)) (.tmp 79)) (some 80) (.bool true) (by kernel_rfl) (by kernel_rfl) (by kernel_rfl) HS1.out (fun o' e => exec_pick (b := false) _ e (by kernel_rfl) (by kernel_rfl)) ?_
          simp only [put_some, put_none, List.setIfInBounds_toArray, List.set_cons_succ, List.set_cons_zero]
          have L6 : Hid (Below w.heap.size w y1) := Lib.hid (L5.out.trans (HS1.out.mono L5.out.size))
          have HX6 : Hid (Blk y1 g6 59 #[.bool true, .string x4.s]) := Lib.hid ((HS1.out.block g6 HX5.out.lt).trans HX5.out)
          have HNO : Hid (∀ p, ¬ Is L b k p) := Lib.hid fun p hp => by
            obtain ⟨e3, e4⟩ := HGD.out.one (Gd.of hp)
            have h6 := hp.1.s
            have h7 : x4.s = p.s := by rw [e4]
            rw [h7] at h5
            omega
          clear HS0 h4
          have z := HX6.out
          have d0 := z.cell 0
          have d1 := z.cell 1
          have e0 := z.frozen 0
          have e1 := z.frozen 1
          simp only [List.getElem?_toArray, List.getElem?_cons_zero, List.getElem?_cons_succ] at d0 d1
          have HZ := Lib.hid z
          clear z
          go_wp2_with fail
          refine bodyPost_ret (results_cell2 rfl rfl (loadVar_blk ((HZ.out.set_ 0 (.bool false)).set_ 1 (.string ⟨#[]⟩)) Tryd.underlying59 rfl isize_piece) rfl) rfl ?_
          exact ⟨.inr ⟨HNO.out, rfl⟩, (L6.out.setCell (p := ⟨g6, 0, none⟩) HG6.out _).setCell (p := ⟨g6, 1, none⟩) HG6.out _⟩
        refine region_anyZ (fun W => Below w5.heap.size w5 W) 25 (by kernel_rfl) ?_
        refine takeG 0 (.fieldAddr 59 (.tmp 6) 0) (some 56) none (.pointer (some ⟨g6, 0, none⟩)) (by kernel_rfl) (by kernel_rfl) (by kernel_rfl) (fun _ _ _ h => h) (fun o' wq e hS => exec_field (u := .pointer (some ⟨g6, 0, none⟩)) wq e (by kernel_rfl) (by kernel_rfl)) HS0.out ?_
        refine takeG 1 (.load 4 (.tmp 56)) (some 57) none (.bool true) (by kernel_rfl) (by kernel_rfl) (by kernel_rfl) (fun _ _ _ h => h) (fun o' wq e hS => exec_load (x := (.tmp 56)) e (by kernel_rfl) (HLP.out wq hS).1) HS0.out ?_
        refine takeG 2 (.unOp .not 4 (.tmp 57)) (some 58) none (.bool false) (by kernel_rfl) (by kernel_rfl) (by kernel_rfl) (fun _ _ _ h => h) (fun o' wq e hS => exec_un (u := .bool true) wq e (by kernel_rfl) (by kernel_rfl)) HS0.out ?_
        refine takeG 3 (.move (.tmp 58)) (some 59) none (.bool false) (by kernel_rfl) (by kernel_rfl) (by kernel_rfl) (fun _ _ _ h => h) (fun o' wq e hS => exec_move wq e (by kernel_rfl)) HS0.out ?_
        refine takeSkip 4 (.move (.tmp 8)) (some 60) (some (3, true)) (by kernel_rfl) (by kernel_rfl) (by kernel_rfl) (fun _ _ _ h => h) HS0.out ?_
        refine takeSkip 5 (.indexAddr 84 (.tmp 60) (.const (.int .i64 3))) (some 61) (some (3, true)) (by kernel_rfl) (by kernel_rfl) (by kernel_rfl) (fun _ _ _ h => h) HS0.out ?_
        refine takeSkip 6 (.load 81 (.tmp 61)) (some 62) (some (3, true)) (by kernel_rfl) (by kernel_rfl) (by kernel_rfl) (fun _ _ _ h => h) HS0.out ?_
        refine takeSkip 7 (.call ⟨.value (.func 36), #[(.const (.int .i64 0))], #[3]⟩) (some 63) (some (3, true)) (by kernel_rfl) (by kernel_rfl) (by kernel_rfl) (fun _ _ _ h => h) HS0.out ?_
        refine takeSkip 8 (.binOp .neq 81 (.tmp 62) (.tmp 63) 81) (some 64) (some (3, true)) (by kernel_rfl) (by kernel_rfl) (by kernel_rfl) (fun _ _ _ h => h) HS0.out ?_
        refine takeG 9 (.pick (.tmp 59) (.tmp 64) (.const (Value.bool false))) (some 65) none (.bool false) (by kernel_rfl) (by kernel_rfl) (by kernel_rfl) (fun _ _ _ h => h) (fun o' wq e hS => exec_pick (b := false) wq e (by kernel_rfl) (by kernel_rfl)) HS0.out ?_
        refine takeG 10 (.move (.tmp 65)) (some 66) none (.bool false) (by kernel_rfl) (by kernel_rfl) (by kernel_rfl) (fun _ _ _ h => h) (fun o' wq e hS => exec_move wq e (by kernel_rfl)) HS0.out ?_
        refine takeG 11 (.move (.tmp 8)) (some 67) (some (10, false)) (.slice (some ⟨gl, ol, none⟩) 5 c1) (by kernel_rfl) (by kernel_rfl) (by kernel_rfl) (fun _ _ _ h => h) (fun o' wq e hS => exec_move wq e (by kernel_rfl)) HS0.out ?_
        refine takeG 12 (.indexAddr 84 (.tmp 67) (.const (.int .i64 4))) (some 68) (some (10, false)) (.pointer (some ⟨gl, ol + 4 * 3, none⟩)) (by kernel_rfl) (by kernel_rfl) (by kernel_rfl) (fun _ _ _ h => h) (fun o' wq e hS => exec_index (u1 := .slice (some ⟨gl, ol, none⟩) 5 c1) (u2 := (.int .i64 4)) wq e (by kernel_rfl) (by kernel_rfl) (idx5 gl ol c1 4 (by omega) _)) HS0.out ?_
        refine takeG 13 (.load 81 (.tmp 68)) (some 69) (some (10, false)) (.agg (itA x4)) (by kernel_rfl) (by kernel_rfl) (by kernel_rfl) (fun _ _ _ h => h) (fun o' wq e hS => exec_load (x := (.tmp 68)) e (by kernel_rfl) (HLD.out wq hS 4 _ rfl)) HS0.out ?_
        refine takeG 14 (.fieldAddr 59 (.tmp 6) 1) (some 70) (some (10, false)) (.pointer (some ⟨g6, 1, none⟩)) (by kernel_rfl) (by kernel_rfl) (by kernel_rfl) (fun _ _ _ h => h) (fun o' wq e hS => exec_field (u := .pointer (some ⟨g6, 0, none⟩)) wq e (by kernel_rfl) (by kernel_rfl)) HS0.out ?_
        refine takeG 15 (.load 9 (.tmp 70)) (some 71) (some (10, false)) (.string x4.s) (by kernel_rfl) (by kernel_rfl) (by kernel_rfl) (fun _ _ _ h => h) (fun o' wq e hS => exec_load (x := (.tmp 70)) e (by kernel_rfl) (HLP.out wq hS).2) HS0.out ?_
        refine loneG 16 (.call ⟨.value (.func 37), #[(.tmp 71)], #[9]⟩) (some 72) (some (10, false)) (by kernel_rfl) (by kernel_rfl) (by kernel_rfl) ?_
        intro o' ho hod
        refine wp_callC (f := 37) (args := #[.string x4.s]) (by cases o'; cases ho; kernel_rfl) (text_it x4.s _) ?_
        rintro e y1 ⟨rfl, by1⟩
        refine ⟨_, rfl, ?_⟩
        rw [hod]
        clear hod ho
        have HS1 : Hid (Below w5.heap.size w5 y1) := Lib.hid (tr_ HS0.out by1)
        clear by1
        refine ⟨fun _ => HS1.out, ?_⟩
        refine takeG 17 (.binOp .neq 81 (.tmp 69) (.tmp 72) 81) (some 73) (some (10, false)) (.bool false) (by kernel_rfl) (by kernel_rfl) (by kernel_rfl) (fun _ _ _ h => h) (fun o' wq e hS => exec_bin (u1 := .agg (itA x4)) (u2 := .agg (itA ⟨2, 0, x4.s⟩)) wq e (by kernel_rfl) (by kernel_rfl) (guard_item ..) (neq_it h4 _)) HS1.out ?_
        refine takeG 18 (.pick (.tmp 66) (.const (Value.bool true)) (.tmp 73)) (some 74) none (.bool false) (by kernel_rfl) (by kernel_rfl) (by kernel_rfl) (fun _ _ _ h => h) (fun o' wq e hS => exec_pick (b := false) wq e (by kernel_rfl) (by kernel_rfl)) HS1.out ?_
        refine takeG 19 (.move (.tmp 74)) (some 75) none (.bool false) (by kernel_rfl) (by kernel_rfl) (by kernel_rfl) (fun _ _ _ h => h) (fun o' wq e hS => exec_move wq e (by kernel_rfl)) HS1.out ?_
        refine takeG 20 (.fieldAddr 59 (.tmp 6) 1) (some 76) (some (19, false)) (.pointer (some ⟨g6, 1, none⟩)) (by kernel_rfl) (by kernel_rfl) (by kernel_rfl) (fun _ _ _ h => h) (fun o' wq e hS => exec_field (u := .pointer (some ⟨g6, 0, none⟩)) wq e (by kernel_rfl) (by kernel_rfl)) HS1.out ?_
        refine takeG 21 (.load 9 (.tmp 76)) (some 77) (some (19, false)) (.string x4.s) (by kernel_rfl) (by kernel_rfl) (by kernel_rfl) (fun _ _ _ h => h) (fun o' wq e hS => exec_load (x := (.tmp 76)) e (by kernel_rfl) (HLP.out wq hS).2) HS1.out ?_
        refine takeG 22 (.call ⟨.builtin .len, #[(.tmp 77)], #[9]⟩) (some 78) (some (19, false)) (.int .i64 (x4.s.size : Int)) (by kernel_rfl) (by kernel_rfl) (by kernel_rfl) (fun _ _ _ h => h) (fun o' wq e hS => exec_len (u := .string x4.s) wq e (by kernel_rfl) (by kernel_rfl)) HS1.out ?_
        refine takeG 23 (.binOp .gtr 3 (.tmp 78) (.const (.int .i64 56)) 3) (some 79) (some (19, false)) (.bool false) (by kernel_rfl) (by kernel_rfl) (by kernel_rfl) (fun _ _ _ h => h) (fun o' wq e hS => exec_bin (u1 := .int .i64 (x4.s.size : Int)) (u2 := (.int .i64 56)) wq e (by kernel_rfl) (by kernel_rfl) (eqG_int ..) (gtr_F h5 _)) HS1.out ?_
        refine lastS 24 (.pick (.tmp 75) (.const (Value.bool true)) (.tmp 79)) (some 80) (.bool false) (by kernel_rfl) (by kernel_rfl) (by kernel_rfl) HS1.out (fun o' e => exec_pick (b := false) _ e (by kernel_rfl) (by kernel_rfl)) ?_
        simp only [put_some, put_none, List.setIfInBounds_toArray, List.set_cons_succ, List.set_cons_zero]
        have L6 : Hid (Below w.heap.size w y1) := Lib.hid (L5.out.trans (HS1.out.mono L5.out.size))
        have HX6 : Hid (Blk y1 g6 59 #[.bool true, .string x4.s]) := Lib.hid ((HS1.out.block g6 HX5.out.lt).trans HX5.out)
        have HIS : Hid (Is L b k ⟨true, x4.s⟩) := Lib.hid (is_of HL.out HGD.out.1 (by rw [HGD.out.2]; show _ = itsI b k ⟨true, x4.s⟩; unfold itsI bit; rw [h3]; rw [← h4]; rfl) HZ.out.1 HZ.out.2 h5)
        have d0 := HX6.out.cell 0
        have d1 := HX6.out.cell 1
        have e0 := HX6.out.frozen 0
        have e1 := HX6.out.frozen 1
        simp only [List.getElem?_toArray, List.getElem?_cons_zero, List.getElem?_cons_succ] at d0 d1
        clear HS0 h3 h4
        go_wp2_with fail
        refine bodyPost_ret (results_cell2 rfl rfl (loadVar_blk ((HX6.out.set_ 0 (.bool true)).set_ 1 (.string x4.s)) Tryd.underlying59 rfl isize_piece) rfl) rfl ?_
        exact ⟨.inl ⟨_, HIS.out, rfl⟩, (L6.out.setCell (p := ⟨g6, 0, none⟩) HG6.out _).setCell (p := ⟨g6, 1, none⟩) HG6.out _⟩
      · refine region_anyZ (fun W => Below w2.heap.size w2 W) 10 (by kernel_rfl) ?_
        refine takeG 0 (.move (.tmp 8)) (some 46) none (.slice (some ⟨gl, ol, none⟩) 5 c1) (by kernel_rfl) (by kernel_rfl) (by kernel_rfl) (fun _ _ _ h => h) (fun o' wq e hS => exec_move wq e (by kernel_rfl)) HS0.out ?_
        refine takeG 1 (.indexAddr 84 (.tmp 46) (.const (.int .i64 3))) (some 47) none (.pointer (some ⟨gl, ol + 3 * 3, none⟩)) (by kernel_rfl) (by kernel_rfl) (by kernel_rfl) (fun _ _ _ h => h) (fun o' wq e hS => exec_index (u1 := .slice (some ⟨gl, ol, none⟩) 5 c1) (u2 := (.int .i64 3)) wq e (by kernel_rfl) (by kernel_rfl) (idx5 gl ol c1 3 (by omega) _)) HS0.out ?_
        refine takeG 2 (.load 81 (.tmp 47)) (some 48) none (.agg (itA x3)) (by kernel_rfl) (by kernel_rfl) (by kernel_rfl) (fun _ _ _ h => h) (fun o' wq e hS => exec_load (x := (.tmp 47)) e (by kernel_rfl) (HLD.out wq hS 3 _ rfl)) HS0.out ?_
        refine takeG 5 (.move (.tmp 8)) (some 51) none (.slice (some ⟨gl, ol, none⟩) 5 c1) (by kernel_rfl) (by kernel_rfl) (by kernel_rfl) (fun _ _ _ h => h) (fun o' wq e hS => exec_move wq e (by kernel_rfl)) HS0.out ?_
        refine takeG 6 (.indexAddr 84 (.tmp 51) (.const (.int .i64 4))) (some 52) none (.pointer (some ⟨gl, ol + 4 * 3, none⟩)) (by kernel_rfl) (by kernel_rfl) (by kernel_rfl) (fun _ _ _ h => h) (fun o' wq e hS => exec_index (u1 := .slice (some ⟨gl, ol, none⟩) 5 c1) (u2 := (.int .i64 4)) wq e (by kernel_rfl) (by kernel_rfl) (idx5 gl ol c1 4 (by omega) _)) HS0.out ?_
        refine takeG 7 (.fieldAddr 81 (.tmp 52) 2) (some 53) none (.pointer (some ⟨gl, ol + 4 * 3 + 2, none⟩)) (by kernel_rfl) (by kernel_rfl) (by kernel_rfl) (fun _ _ _ h => h) (fun o' wq e hS => exec_field (u := .pointer (some ⟨gl, ol + 4 * 3, none⟩)) wq e (by kernel_rfl) (by kernel_rfl)) HS0.out ?_
        refine takeG 8 (.load 9 (.tmp 53)) (some 54) none (.string x4.s) (by kernel_rfl) (by kernel_rfl) (by kernel_rfl) (fun _ _ _ h => h) (fun o' wq e hS => exec_load (x := (.tmp 53)) e (by kernel_rfl) (HLS.out wq hS)) HS0.out ?_
        refine loneG 3 (.call ⟨.value (.func 36), #[(.const (.int .i64 1))], #[3]⟩) (some 49) none (by kernel_rfl) (by kernel_rfl) (by kernel_rfl) ?_
        intro o' ho hod
        refine wp_callC (f := 36) (args := #[.int .i64 1]) (by cases o'; cases ho; kernel_rfl) (number_it 1 _) ?_
        rintro e y1 ⟨rfl, by1⟩
        refine ⟨_, rfl, ?_⟩
        rw [hod]
        clear hod ho
        have HS1 : Hid (Below w2.heap.size w2 y1) := Lib.hid (tr_ HS0.out by1)
        clear by1
        refine ⟨fun _ => HS1.out, ?_⟩
        refine takeG 4 (.binOp .eql 81 (.tmp 48) (.tmp 49) 81) (some 50) none (.bool false) (by kernel_rfl) (by kernel_rfl) (by kernel_rfl) (fun _ _ _ h => h) (fun o' wq e hS => exec_bin (u1 := .agg (itA x3)) (u2 := .agg (itA ⟨1, 1, ⟨#[]⟩⟩)) wq e (by kernel_rfl) (by kernel_rfl) (guard_item ..) (eql_no h3 _)) HS1.out ?_
        refine takeG 9 (.build 59 #[(0, (.tmp 50)), (1, (.tmp 54))]) (some 55) none (.agg #[.bool false, .string x4.s]) (by kernel_rfl) (by kernel_rfl) (by kernel_rfl) (fun _ _ _ h => h) (fun o' wq e hS => exec_bld2 (u0 := .bool false) (u1 := .string x4.s) wq e (by kernel_rfl) (by kernel_rfl) (by kernel_rfl)) HS1.out ?_
        have HX1 : Hid (Blk y1 g6 59 #[.bool false, .string ⟨#[]⟩]) := Lib.hid ((HS1.out.block g6 HX.out.lt).trans HX.out)
        obtain ⟨w5, hst, hb5, hg5, hz5⟩ := store_blk (cs' := #[.bool false, .string x4.s]) HX1.out isize_piece rfl (by simp [Value.oneCell'])
        refine lastStore 10 59 (.tmp 6) (.tmp 55) (.pointer (some ⟨g6, 0, none⟩)) (.agg #[.bool false, .string x4.s]) _ (by kernel_rfl) (by kernel_rfl) (by kernel_rfl) rfl (by kernel_rfl) (by kernel_rfl) hst ?_
        simp only [put_some, put_none, List.setIfInBounds_toArray, List.set_cons_succ, List.set_cons_zero]
        have HB5 : Hid (Below w2.heap.size w2 w5 ∨ True) := Lib.hid (.inr trivial)
        have L5 : Hid (Below w.heap.size w w5) := Lib.hid ((L2.out.trans (HS1.out.mono L2.out.size)).grown hg5 (Nat.le_trans L2.out.size HS1.out.size) (fun g' hg' => by injection hg' with hg'; rw [← hg']; exact HG6.out))
        have HX5 := Lib.hid hb5
        have hne : gl ≠ g6 := fun e => by
          have h1 := (HLC.out w1 (Below.refl _ _) 0 _ rfl).1
          rw [e] at h1
          have h2 := X1.out.cell (ol + 0 * 3)
          rw [h2] at h1
          match hq : ol + 0 * 3, h1 with
          | 0, h1 => simp at h1
          | 1, h1 => simp at h1
          | n + 2, h1 => simp at h1
        have hcl : ∀ W', Below w5.heap.size w5 W' → ∀ i v, w2.cell? ⟨gl, i, none⟩ = some v → W'.cell? ⟨gl, i, none⟩ = some v := fun W' hw i v hv => by
          have hgl2 : gl < w2.heap.size := Nat.lt_of_lt_of_le hgl HW2.out.size
          have hgly : gl < y1.heap.size := Nat.lt_of_lt_of_le hgl2 HS1.out.size
          have e1 : y1.cell? ⟨gl, i, none⟩ = w2.cell? ⟨gl, i, none⟩ := HS1.out.cell (p := ⟨gl, i, none⟩) hgl2
          have e2 : w5.cell? ⟨gl, i, none⟩ = y1.cell? ⟨gl, i, none⟩ := World.cell?_of_block (hg5.block gl hgly (fun e => hne (by injection e)))
          have e3 : W'.cell? ⟨gl, i, none⟩ = w5.cell? ⟨gl, i, none⟩ := hw.cell (p := ⟨gl, i, none⟩) (Nat.lt_of_lt_of_le hgly hg5.size)
          rw [e3, e2, e1]
          exact hv
        have HLD5 : Hid (∀ W', Below w5.heap.size w5 W' → ∀ j x, ([⟨1, 55, ⟨#[]⟩⟩, ⟨1, b, ⟨#[]⟩⟩, ⟨1, k, ⟨#[]⟩⟩, x3, x4] : List K.It)[j]? = some x → (Instr.loadAt 81 (.pointer (some ⟨gl, ol + j * 3, none⟩))).run Tryd.prog W' = .ok (.agg (itA x)) W') := Lib.hid fun W' hw j x hj => by
          obtain ⟨a0, a1, a2⟩ := HLC.out w2 HW2.out j x hj
          exact load_item (hcl W' hw _ _ a0) (hcl W' hw _ _ a1) (hcl W' hw _ _ a2)
        have HLP : Hid (∀ W', Below w5.heap.size w5 W' → (Instr.loadAt 4 (.pointer (some ⟨g6, 0, none⟩))).run Tryd.prog W' = .ok (.bool false) W' ∧ (Instr.loadAt 9 (.pointer (some ⟨g6, 1, none⟩))).run Tryd.prog W' = .ok (.string x4.s) W') := Lib.hid fun W' hw => ⟨load_one Tryd.underlying4 (by kernel_rfl) ((hw.cell (p := ⟨g6, 0, none⟩) HX5.out.lt).trans (HX5.out.cell 0)), str_at ((hw.cell (p := ⟨g6, 1, none⟩) HX5.out.lt).trans (HX5.out.cell 1))⟩
        clear HLD HS0 HS1 hst hb5 hg5 hz5 hne hcl HB5 HX1
        have HLD := HLD5
        clear HLD5
        go_upto_region 5 with (fail)
        have HS0 : Hid (Below w5.heap.size w5 w5.drew) := Lib.hid (Below.refl _ _).drew
        by_cases h0 : x3 = ⟨1, 0, ⟨#[]⟩⟩
        rotate_left
        · refine region_anyZ (fun W => Below w5.heap.size w5 W) 25 (by kernel_rfl) ?_
          refine takeG 0 (.fieldAddr 59 (.tmp 6) 0) (some 56) none (.pointer (some ⟨g6, 0, none⟩)) (by kernel_rfl) (by kernel_rfl) (by kernel_rfl) (fun _ _ _ h => h) (fun o' wq e hS => exec_field (u := .pointer (some ⟨g6, 0, none⟩)) wq e (by kernel_rfl) (by kernel_rfl)) HS0.out ?_
          refine takeG 1 (.load 4 (.tmp 56)) (some 57) none (.bool false) (by kernel_rfl) (by kernel_rfl) (by kernel_rfl) (fun _ _ _ h => h) (fun o' wq e hS => exec_load (x := (.tmp 56)) e (by kernel_rfl) (HLP.out wq hS).1) HS0.out ?_
          refine takeG 2 (.unOp .not 4 (.tmp 57)) (some 58) none (.bool true) (by kernel_rfl) (by kernel_rfl) (by kernel_rfl) (fun _ _ _ h => h) (fun o' wq e hS => exec_un (u := .bool false) wq e (by kernel_rfl) (by kernel_rfl)) HS0.out ?_
          refine takeG 3 (.move (.tmp 58)) (some 59) none (.bool true) (by kernel_rfl) (by kernel_rfl) (by kernel_rfl) (fun _ _ _ h => h) (fun o' wq e hS => exec_move wq e (by kernel_rfl)) HS0.out ?_
          refine takeG 4 (.move (.tmp 8)) (some 60) (some (3, true)) (.slice (some ⟨gl, ol, none⟩) 5 c1) (by kernel_rfl) (by kernel_rfl) (by kernel_rfl) (fun _ _ _ h => h) (fun o' wq e hS => exec_move wq e (by kernel_rfl)) HS0.out ?_
          refine takeG 5 (.indexAddr 84 (.tmp 60) (.const (.int .i64 3))) (some 61) (some (3, true)) (.pointer (some ⟨gl, ol + 3 * 3, none⟩)) (by kernel_rfl) (by kernel_rfl) (by kernel_rfl) (fun _ _ _ h => h) (fun o' wq e hS => exec_index (u1 := .slice (some ⟨gl, ol, none⟩) 5 c1) (u2 := (.int .i64 3)) wq e (by kernel_rfl) (by kernel_rfl) (idx5 gl ol c1 3 (by omega) _)) HS0.out ?_
          refine takeG 6 (.load 81 (.tmp 61)) (some 62) (some (3, true)) (.agg (itA x3)) (by kernel_rfl) (by kernel_rfl) (by kernel_rfl) (fun _ _ _ h => h) (fun o' wq e hS => exec_load (x := (.tmp 61)) e (by kernel_rfl) (HLD.out wq hS 3 _ rfl)) HS0.out ?_
          refine loneG 7 (.call ⟨.value (.func 36), #[(.const (.int .i64 0))], #[3]⟩) (some 63) (some (3, true)) (by kernel_rfl) (by kernel_rfl) (by kernel_rfl) ?_
          intro o' ho hod
          refine wp_callC (f := 36) (args := #[.int .i64 0]) (by cases o'; cases ho; kernel_rfl) (number_it 0 _) ?_
          rintro e y1 ⟨rfl, by1⟩
          refine ⟨_, rfl, ?_⟩
          rw [hod]
          clear hod ho
          have HS1 : Hid (Below w5.heap.size w5 y1) := Lib.hid (tr_ HS0.out by1)
          clear by1
          refine ⟨fun _ => HS1.out, ?_⟩
          refine takeG 8 (.binOp .neq 81 (.tmp 62) (.tmp 63) 81) (some 64) (some (3, true)) (.bool true) (by kernel_rfl) (by kernel_rfl) (by kernel_rfl) (fun _ _ _ h => h) (fun o' wq e hS => exec_bin (u1 := .agg (itA x3)) (u2 := .agg (itA ⟨1, 0, ⟨#[]⟩⟩)) wq e (by kernel_rfl) (by kernel_rfl) (guard_item ..) (neq_diff x3 ⟨1, 0, ⟨#[]⟩⟩ h0 _)) HS1.out ?_
          refine takeG 9 (.pick (.tmp 59) (.tmp 64) (.const (Value.bool false))) (some 65) none (.bool true) (by kernel_rfl) (by kernel_rfl) (by kernel_rfl) (fun _ _ _ h => h) (fun o' wq e hS => exec_pick (b := true) wq e (by kernel_rfl) (by kernel_rfl)) HS1.out ?_
          refine takeG 10 (.move (.tmp 65)) (some 66) none (.bool true) (by kernel_rfl) (by kernel_rfl) (by kernel_rfl) (fun _ _ _ h => h) (fun o' wq e hS => exec_move wq e (by kernel_rfl)) HS1.out ?_
          refine takeSkip 11 (.move (.tmp 8)) (some 67) (some (10, false)) (by kernel_rfl) (by kernel_rfl) (by kernel_rfl) (fun _ _ _ h => h) HS1.out ?_
          refine takeSkip 12 (.indexAddr 84 (.tmp 67) (.const (.int .i64 4))) (some 68) (some (10, false)) (by kernel_rfl) (by kernel_rfl) (by kernel_rfl) (fun _ _ _ h => h) HS1.out ?_
          refine takeSkip 13 (.load 81 (.tmp 68)) (some 69) (some (10, false)) (by kernel_rfl) (by kernel_rfl) (by kernel_rfl) (fun _ _ _ h => h) HS1.out ?_
          refine takeSkip 14 (.fieldAddr 59 (.tmp 6) 1) (some 70) (some (10, false)) (by kernel_rfl) (by kernel_rfl) (by kernel_rfl) (fun _ _ _ h => h) HS1.out ?_
          refine takeSkip 15 (.load 9 (.tmp 70)) (some 71) (some (10, false)) (by kernel_rfl) (by kernel_rfl) (by kernel_rfl) (fun _ _ _ h => h) HS1.out ?_
          refine takeSkip 16 (.call ⟨.value (.func 37), #[(.tmp 71)], #[9]⟩) (some 72) (some (10, false)) (by kernel_rfl) (by kernel_rfl) (by kernel_rfl) (fun _ _ _ h => h) HS1.out ?_
          refine takeSkip 17 (.binOp .neq 81 (.tmp 69) (.tmp 72) 81) (some 73) (some (10, false)) (by kernel_rfl) (by kernel_rfl) (by kernel_rfl) (fun _ _ _ h => h) HS1.out ?_
          refine takeG 18 (.pick (.tmp 66) (.const (Value.bool true)) (.tmp 73)) (some 74) none (.bool true) (by kernel_rfl) (by kernel_rfl) (by kernel_rfl) (fun _ _ _ h => h) (fun o' wq e hS => exec_pick (b := true) wq e (by kernel_rfl) (by kernel_rfl)) HS1.out ?_
          refine takeG 19 (.move (.tmp 74)) (some 75) none (.bool true) (by kernel_rfl) (by kernel_rfl) (by kernel_rfl) (fun _ _ _ h => h) (fun o' wq e hS => exec_move wq e (by kernel_rfl)) HS1.out ?_
          refine takeSkip 20 (.fieldAddr 59 (.tmp 6) 1) (some 76) (some (19, false)) (by kernel_rfl) (by kernel_rfl) (by kernel_rfl) (fun _ _ _ h => h) HS1.out ?_
          refine takeSkip 21 (.load 9 (.tmp 76)) (some 77) (some (19, false)) (by kernel_rfl) (by kernel_rfl) (by kernel_rfl) (fun _ _ _ h => h) HS1.out ?_
          refine takeSkip 22 (.call ⟨.builtin .len, #[(.tmp 77)], #[9]⟩) (some 78) (some (19, false)) (by kernel_rfl) (by kernel_rfl) (by kernel_rfl) (fun _ _ _ h => h) HS1.out ?_
          refine takeSkip 23 (.binOp .gtr 3 (.tmp 78) (.const (.int .i64 56)) 3) (some 79) (some (19, false)) (by kernel_rfl) (by kernel_rfl) (by kernel_rfl) (fun _ _ _ h => h) HS1.out ?_
          refine lastS 24 (.pick (.tmp 75) (.const (Value.bool true)) (.tmp 79)) (some 80) (.bool true) (by kernel_rfl) (by kernel_rfl) (by kernel_rfl) HS1.out (fun o' e => exec_pick (b := true) _ e (by kernel_rfl) (by kernel_rfl)) ?_
          simp only [put_some, put_none, List.setIfInBounds_toArray, List.set_cons_succ, List.set_cons_zero]
          have L6 : Hid (Below w.heap.size w y1) := Lib.hid (L5.out.trans (HS1.out.mono L5.out.size))
          have HX6 : Hid (Blk y1 g6 59 #[.bool false, .string x4.s]) := Lib.hid ((HS1.out.block g6 HX5.out.lt).trans HX5.out)
          have HNO : Hid (∀ p, ¬ Is L b k p) := Lib.hid fun p hp => by
            obtain ⟨e3, e4⟩ := HGD.out.one (Gd.of hp)
            have : p.l = true ∨ p.l = false := by cases p.l <;> simp
            rcases this with hp' | hp'
            · rw [hp'] at e3; exact h3 e3
            · rw [hp'] at e3; exact h0 e3
          clear HS0
          have z := HX6.out
          have d0 := z.cell 0
          have d1 := z.cell 1
          have e0 := z.frozen 0
          have e1 := z.frozen 1
          simp only [List.getElem?_toArray, List.getElem?_cons_zero, List.getElem?_cons_succ] at d0 d1
          have HZ := Lib.hid z
          clear z
          go_wp2_with fail
          refine bodyPost_ret (results_cell2 rfl rfl (loadVar_blk ((HZ.out.set_ 0 (.bool false)).set_ 1 (.string ⟨#[]⟩)) Tryd.underlying59 rfl isize_piece) rfl) rfl ?_
          exact ⟨.inr ⟨HNO.out, rfl⟩, (L6.out.setCell (p := ⟨g6, 0, none⟩) HG6.out _).setCell (p := ⟨g6, 1, none⟩) HG6.out _⟩
        by_cases h4 : x4 = ⟨2, 0, x4.s⟩
        rotate_left
        · refine region_anyZ (fun W => Below w5.heap.size w5 W) 25 (by kernel_rfl) ?_
          refine takeG 0 (.fieldAddr 59 (.tmp 6) 0) (some 56) none (.pointer (some ⟨g6, 0, none⟩)) (by kernel_rfl) (by kernel_rfl) (by kernel_rfl) (fun _ _ _ h => h) (fun o' wq e hS => exec_field (u := .pointer (some ⟨g6, 0, none⟩)) wq e (by kernel_rfl) (by kernel_rfl)) HS0.out ?_
          refine takeG 1 (.load 4 (.tmp 56)) (some 57) none (.bool false) (by kernel_rfl) (by kernel_rfl) (by kernel_rfl) (fun _ _ _ h => h) (fun o' wq e hS => exec_load (x := (.tmp 56)) e (by kernel_rfl) (HLP.out wq hS).1) HS0.out ?_
          refine takeG 2 (.unOp .not 4 (.tmp 57)) (some 58) none (.bool true) (by kernel_rfl) (by kernel_rfl) (by kernel_rfl) (fun _ _ _ h => h) (fun o' wq e hS => exec_un (u := .bool false) wq e (by kernel_rfl) (by kernel_rfl)) HS0.out ?_
          refine takeG 3 (.move (.tmp 58)) (some 59) none (.bool true) (by kernel_rfl) (by kernel_rfl) (by kernel_rfl) (fun _ _ _ h => h) (fun o' wq e hS => exec_move wq e (by kernel_rfl)) HS0.out ?_
          refine takeG 4 (.move (.tmp 8)) (some 60) (some (3, true)) (.slice (some ⟨gl, ol, none⟩) 5 c1) (by kernel_rfl) (by kernel_rfl) (by kernel_rfl) (fun _ _ _ h => h) (fun o' wq e hS => exec_move wq e (by kernel_rfl)) HS0.out ?_
          refine takeG 5 (.indexAddr 84 (.tmp 60) (.const (.int .i64 3))) (some 61) (some (3, true)) (.pointer (some ⟨gl, ol + 3 * 3, none⟩)) (by kernel_rfl) (by kernel_rfl) (by kernel_rfl) (fun _ _ _ h => h) (fun o' wq e hS => exec_index (u1 := .slice (some ⟨gl, ol, none⟩) 5 c1) (u2 := (.int .i64 3)) wq e (by kernel_rfl) (by kernel_rfl) (idx5 gl ol c1 3 (by omega) _)) HS0.out ?_
          refine takeG 6 (.load 81 (.tmp 61)) (some 62) (some (3, true)) (.agg (itA x3)) (by kernel_rfl) (by kernel_rfl) (by kernel_rfl) (fun _ _ _ h => h) (fun o' wq e hS => exec_load (x := (.tmp 61)) e (by kernel_rfl) (HLD.out wq hS 3 _ rfl)) HS0.out ?_
          refine loneG 7 (.call ⟨.value (.func 36), #[(.const (.int .i64 0))], #[3]⟩) (some 63) (some (3, true)) (by kernel_rfl) (by kernel_rfl) (by kernel_rfl) ?_
          intro o' ho hod
          refine wp_callC (f := 36) (args := #[.int .i64 0]) (by cases o'; cases ho; kernel_rfl) (number_it 0 _) ?_
          rintro e y1 ⟨rfl, by1⟩
          refine ⟨_, rfl, ?_⟩
          rw [hod]
          clear hod ho
          have HS1 : Hid (Below w5.heap.size w5 y1) := Lib.hid (tr_ HS0.out by1)
          clear by1
          refine ⟨fun _ => HS1.out, ?_⟩
          refine takeG 8 (.binOp .neq 81 (.tmp 62) (.tmp 63) 81) (some 64) (some (3, true)) (.bool false) (by kernel_rfl) (by kernel_rfl) (by kernel_rfl) (fun _ _ _ h => h) (fun o' wq e hS => exec_bin (u1 := .agg (itA x3)) (u2 := .agg (itA ⟨1, 0, ⟨#[]⟩⟩)) wq e (by kernel_rfl) (by kernel_rfl) (guard_item ..) (neq_it h0 _)) HS1.out ?_
          refine takeG 9 (.pick (.tmp 59) (.tmp 64) (.const (Value.bool false))) (some 65) none (.bool false) (by kernel_rfl) (by kernel_rfl) (by kernel_rfl) (fun _ _ _ h => h) (fun o' wq e hS => exec_pick (b := true) wq e (by kernel_rfl) (by kernel_rfl)) HS1.out ?_
          refine takeG 10 (.move (.tmp 65)) (some 66) none (.bool false) (by kernel_rfl) (by kernel_rfl) (by kernel_rfl) (fun _ _ _ h => h) (fun o' wq e hS => exec_move wq e (by kernel_rfl)) HS1.out ?_
          refine takeG 11 (.move (.tmp 8)) (some 67) (some (10, false)) (.slice (some ⟨gl, ol, none⟩) 5 c1) (by kernel_rfl) (by kernel_rfl) (by kernel_rfl) (fun _ _ _ h => h) (fun o' wq e hS => exec_move wq e (by kernel_rfl)) HS1.out ?_
          refine takeG 12 (.indexAddr 84 (.tmp 67) (.const (.int .i64 4))) (some 68) (some (10, false)) (.pointer (some ⟨gl, ol + 4 * 3, none⟩)) (by kernel_rfl) (by kernel_rfl) (by kernel_rfl) (fun _ _ _ h => h) (fun o' wq e hS => exec_index (u1 := .slice (some ⟨gl, ol, none⟩) 5 c1) (u2 := (.int .i64 4)) wq e (by kernel_rfl) (by kernel_rfl) (idx5 gl ol c1 4 (by omega) _)) HS1.out ?_
          refine takeG 13 (.load 81 (.tmp 68)) (some 69) (some (10, false)) (.agg (itA x4)) (by kernel_rfl) (by kernel_rfl) (by kernel_rfl) (fun _ _ _ h => h) (fun o' wq e hS => exec_load (x := (.tmp 68)) e (by kernel_rfl) (HLD.out wq hS 4 _ rfl)) HS1.out ?_
          refine takeG 14 (.fieldAddr 59 (.tmp 6) 1) (some 70) (some (10, false)) (.pointer (some ⟨g6, 1, none⟩)) (by kernel_rfl) (by kernel_rfl) (by kernel_rfl) (fun _ _ _ h => h) (fun o' wq e hS => exec_field (u := .pointer (some ⟨g6, 0, none⟩)) wq e (by kernel_rfl) (by kernel_rfl)) HS1.out ?_
          refine takeG 15 (.load 9 (.tmp 70)) (some 71) (some (10, false)) (.string x4.s) (by kernel_rfl) (by kernel_rfl) (by kernel_rfl) (fun _ _ _ h => h) (fun o' wq e hS => exec_load (x := (.tmp 70)) e (by kernel_rfl) (HLP.out wq hS).2) HS1.out ?_
          refine loneG 16 (.call ⟨.value (.func 37), #[(.tmp 71)], #[9]⟩) (some 72) (some (10, false)) (by kernel_rfl) (by kernel_rfl) (by kernel_rfl) ?_
          intro o' ho hod
          refine wp_callC (f := 37) (args := #[.string x4.s]) (by cases o'; cases ho; kernel_rfl) (text_it x4.s _) ?_
          rintro e y2 ⟨rfl, by2⟩
          refine ⟨_, rfl, ?_⟩
          rw [hod]
          clear hod ho
          have HS2 : Hid (Below w5.heap.size w5 y2) := Lib.hid (tr_ HS1.out by2)
          clear by2
          refine ⟨fun _ => HS2.out, ?_⟩
          refine takeG 17 (.binOp .neq 81 (.tmp 69) (.tmp 72) 81) (some 73) (some (10, false)) (.bool true) (by kernel_rfl) (by kernel_rfl) (by kernel_rfl) (fun _ _ _ h => h) (fun o' wq e hS => exec_bin (u1 := .agg (itA x4)) (u2 := .agg (itA ⟨2, 0, x4.s⟩)) wq e (by kernel_rfl) (by kernel_rfl) (guard_item ..) (neq_diff x4 ⟨2, 0, x4.s⟩ h4 _)) HS2.out ?_
          refine takeG 18 (.pick (.tmp 66) (.const (Value.bool true)) (.tmp 73)) (some 74) none (.bool true) (by kernel_rfl) (by kernel_rfl) (by kernel_rfl) (fun _ _ _ h => h) (fun o' wq e hS => exec_pick (b := false) wq e (by kernel_rfl) (by kernel_rfl)) HS2.out ?_
          refine takeG 19 (.move (.tmp 74)) (some 75) none (.bool true) (by kernel_rfl) (by kernel_rfl) (by kernel_rfl) (fun _ _ _ h => h) (fun o' wq e hS => exec_move wq e (by kernel_rfl)) HS2.out ?_
          refine takeSkip 20 (.fieldAddr 59 (.tmp 6) 1) (some 76) (some (19, false)) (by kernel_rfl) (by kernel_rfl) (by kernel_rfl) (fun _ _ _ h => h) HS2.out ?_
          refine takeSkip 21 (.load 9 (.tmp 76)) (some 77) (some (19, false)) (by kernel_rfl) (by kernel_rfl) (by kernel_rfl) (fun _ _ _ h => h) HS2.out ?_
          refine takeSkip 22 (.call ⟨.builtin .len, #[(.tmp 77)], #[9]⟩) (some 78) (some (19, false)) (by kernel_rfl) (by kernel_rfl) (by kernel_rfl) (fun _ _ _ h => h) HS2.out ?_
          refine takeSkip 23 (.binOp .gtr 3 (.tmp 78) (.const (.int .i64 56)) 3) (some 79) (some (19, false)) (by kernel_rfl) (by kernel_rfl) (by kernel_rfl) (fun _ _ _ h => h) HS2.out ?_
          refine lastS 24 (.pick (.tmp 75) (.const (Value.bool true)) (.tmp 79)) (some 80) (.bool true) (by kernel_rfl) (by kernel_rfl) (by kernel_rfl) HS2.out (fun o' e => exec_pick (b := true) _ e (by kernel_rfl) (by kernel_rfl)) ?_
          simp only [put_some, put_none, List.setIfInBounds_toArray, List.set_cons_succ, List.set_cons_zero]
          have L6 : Hid (Below w.heap.size w y2) := Lib.hid (L5.out.trans (HS2.out.mono L5.out.size))
          have HX6 : Hid (Blk y2 g6 59 #[.bool false, .string x4.s]) := Lib.hid ((HS2.out.block g6 HX5.out.lt).trans HX5.out)
          have HNO : Hid (∀ p, ¬ Is L b k p) := Lib.hid fun p hp => by
            obtain ⟨e3, e4⟩ := HGD.out.one (Gd.of hp)
            exact h4 (by rw [e4])
          clear HS0
          have z := HX6.out
          have d0 := z.cell 0
          have d1 := z.cell 1
          have e0 := z.frozen 0
          have e1 := z.frozen 1
          simp only [List.getElem?_toArray, List.getElem?_cons_zero, List.getElem?_cons_succ] at d0 d1
          have HZ := Lib.hid z
          clear z
          go_wp2_with fail
          refine bodyPost_ret (results_cell2 rfl rfl (loadVar_blk ((HZ.out.set_ 0 (.bool false)).set_ 1 (.string ⟨#[]⟩)) Tryd.underlying59 rfl isize_piece) rfl) rfl ?_
          exact ⟨.inr ⟨HNO.out, rfl⟩, (L6.out.setCell (p := ⟨g6, 0, none⟩) HG6.out _).setCell (p := ⟨g6, 1, none⟩) HG6.out _⟩
        by_cases h5 : x4.s.size ≤ 56
        rotate_left
        · replace h5 : 56 < x4.s.size := by omega
          refine region_anyZ (fun W => Below w5.heap.size w5 W) 25 (by kernel_rfl) ?_
          refine takeG 0 (.fieldAddr 59 (.tmp 6) 0) (some 56) none (.pointer (some ⟨g6, 0, none⟩)) (by kernel_rfl) (by kernel_rfl) (by kernel_rfl) (fun _ _ _ h => h) (fun o' wq e hS => exec_field (u := .pointer (some ⟨g6, 0, none⟩)) wq e (by kernel_rfl) (by kernel_rfl)) HS0.out ?_
          refine takeG 1 (.load 4 (.tmp 56)) (some 57) none (.bool false) (by kernel_rfl) (by kernel_rfl) (by kernel_rfl) (fun _ _ _ h => h) (fun o' wq e hS => exec_load (x := (.tmp 56)) e (by kernel_rfl) (HLP.out wq hS).1) HS0.out ?_
          refine takeG 2 (.unOp .not 4 (.tmp 57)) (some 58) none (.bool true) (by kernel_rfl) (by kernel_rfl) (by kernel_rfl) (fun _ _ _ h => h) (fun o' wq e hS => exec_un (u := .bool false) wq e (by kernel_rfl) (by kernel_rfl)) HS0.out ?_
          refine takeG 3 (.move (.tmp 58)) (some 59) none (.bool true) (by kernel_rfl) (by kernel_rfl) (by kernel_rfl) (fun _ _ _ h => h) (fun o' wq e hS => exec_move wq e (by kernel_rfl)) HS0.out ?_
          refine takeG 4 (.move (.tmp 8)) (some 60) (some (3, true)) (.slice (some ⟨gl, ol, none⟩) 5 c1) (by kernel_rfl) (by kernel_rfl) (by kernel_rfl) (fun _ _ _ h => h) (fun o' wq e hS => exec_move wq e (by kernel_rfl)) HS0.out ?_
          refine takeG 5 (.indexAddr 84 (.tmp 60) (.const (.int .i64 3))) (some 61) (some (3, true)) (.pointer (some ⟨gl, ol + 3 * 3, none⟩)) (by kernel_rfl) (by kernel_rfl) (by kernel_rfl) (fun _ _ _ h => h) (fun o' wq e hS => exec_index (u1 := .slice (some ⟨gl, ol, none⟩) 5 c1) (u2 := (.int .i64 3)) wq e (by kernel_rfl) (by kernel_rfl) (idx5 gl ol c1 3 (by omega) _)) HS0.out ?_
          refine takeG 6 (.load 81 (.tmp 61)) (some 62) (some (3, true)) (.agg (itA x3)) (by kernel_rfl) (by kernel_rfl) (by kernel_rfl) (fun _ _ _ h => h) (fun o' wq e hS => exec_load (x := (.tmp 61)) e (by kernel_rfl) (HLD.out wq hS 3 _ rfl)) HS0.out ?_
          refine loneG 7 (.call ⟨.value (.func 36), #[(.const (.int .i64 0))], #[3]⟩) (some 63) (some (3, true)) (by kernel_rfl) (by kernel_rfl) (by kernel_rfl) ?_
          intro o' ho hod
          refine wp_callC (f := 36) (args := #[.int .i64 0]) (by cases o'; cases ho; kernel_rfl) (number_it 0 _) ?_
          rintro e y1 ⟨rfl, by1⟩
          refine ⟨_, rfl, ?_⟩
          rw [hod]
          clear hod ho
          have HS1 : Hid (Below w5.heap.size w5 y1) := Lib.hid (tr_ HS0.out by1)
          clear by1
          refine ⟨fun _ => HS1.out, ?_⟩
          refine takeG 8 (.binOp .neq 81 (.tmp 62) (.tmp 63) 81) (some 64) (some (3, true)) (.bool false) (by kernel_rfl) (by kernel_rfl) (by kernel_rfl) (fun _ _ _ h => h) (fun o' wq e hS => exec_bin (u1 := .agg (itA x3)) (u2 := .agg (itA ⟨1, 0, ⟨#[]⟩⟩)) wq e (by kernel_rfl) (by kernel_rfl) (guard_item ..) (neq_it h0 _)) HS1.out ?_
          refine takeG 9 (.pick (.tmp 59) (.tmp 64) (.const (Value.bool false))) (some 65) none (.bool false) (by kernel_rfl) (by kernel_rfl) (by kernel_rfl) (fun _ _ _ h => h) (fun o' wq e hS => exec_pick (b := true) wq e (by kernel_rfl) (by kernel_rfl)) HS1.out ?_
          refine takeG 10 (.move (.tmp 65)) (some 66) none (.bool false) (by kernel_rfl) (by kernel_rfl) (by kernel_rfl) (fun _ _ _ h => h) (fun o' wq e hS => exec_move wq e (by kernel_rfl)) HS1.out ?_
          refine takeG 11 (.move (.tmp 8)) (some 67) (some (10, false)) (.slice (some ⟨gl, ol, none⟩) 5 c1) (by kernel_rfl) (by kernel_rfl) (by kernel_rfl) (fun _ _ _ h => h) (fun o' wq e hS => exec_move wq e (by kernel_rfl)) HS1.out ?_
          refine takeG 12 (.indexAddr 84 (.tmp 67) (.const (.int .i64 4))) (some 68) (some (10, false)) (.pointer (some ⟨gl, ol + 4 * 3, none⟩)) (by kernel_rfl) (by kernel_rfl) (by kernel_rfl) (fun _ _ _ h => h) (fun o' wq e hS => exec_index (u1 := .slice (some ⟨gl, ol, none⟩) 5 c1) (u2 := (.int .i64 4)) wq e (by kernel_rfl) (by kernel_rfl) (idx5 gl ol c1 4 (by omega) _)) HS1.out ?_
          refine takeG 13 (.load 81 (.tmp 68)) (some 69) (some (10, false)) (.agg (itA x4)) (by kernel_rfl) (by kernel_rfl) (by kernel_rfl) (fun _ _ _ h => h) (fun o' wq e hS => exec_load (x := (.tmp 68)) e (by kernel_rfl) (HLD.out wq hS 4 _ rfl)) HS1.out ?_
          refine takeG 14 (.fieldAddr 59 (.tmp 6) 1) (some 70) (some (10, false)) (.pointer (some ⟨g6, 1, none⟩)) (by kernel_rfl) (by kernel_rfl) (by kernel_rfl) (fun _ _ _ h => h) (fun o' wq e hS => exec_field (u := .pointer (some ⟨g6, 0, none⟩)) wq e (by kernel_rfl) (by kernel_rfl)) HS1.out ?_
          refine takeG 15 (.load 9 (.tmp 70)) (some 71) (some (10, false)) (.string x4.s) (by kernel_rfl) (by kernel_rfl) (by kernel_rfl) (fun _ _ _ h => h) (fun o' wq e hS => exec_load (x := (.tmp 70)) e (by kernel_rfl) (HLP.out wq hS).2) HS1.out ?_
          refine loneG 16 (.call ⟨.value (.func 37), #[(.tmp 71)], #[9]⟩) (some 72) (some (10, false)) (by kernel_rfl) (by kernel_rfl) (by kernel_rfl) ?_
          intro o' ho hod
          refine wp_callC (f := 37) (args := #[.string x4.s]) (by cases o'; cases ho; kernel_rfl) (text_it x4.s _) ?_
          rintro e y2 ⟨rfl, by2⟩
          refine ⟨_, rfl, ?_⟩
          rw [hod]
          clear hod ho
          have HS2 : Hid (Below w5.heap.size w5 y2) := Lib.hid (tr_ HS1.out by2)
          clear by2
          refine ⟨fun _ => HS2.out, ?_⟩
          refine takeG 17 (.binOp .neq 81 (.tmp 69) (.tmp 72) 81) (some 73) (some (10, false)) (.bool false) (by kernel_rfl) (by kernel_rfl) (by kernel_rfl) (fun _ _ _ h => h) (fun o' wq e hS => exec_bin (u1 := .agg (itA x4)) (u2 := .agg (itA ⟨2, 0, x4.s⟩)) wq e (by kernel_rfl) (by kernel_rfl) (guard_item ..) (neq_it h4 _)) HS2.out ?_
          refine takeG 18 (.pick (.tmp 66) (.const (Value.bool true)) (.tmp 73)) (some 74) none (.bool false) (by kernel_rfl) (by kernel_rfl) (by kernel_rfl) (fun _ _ _ h => h) (fun o' wq e hS => exec_pick (b := false) wq e (by kernel_rfl) (by kernel_rfl)) HS2.out ?_
          refine takeG 19 (.move (.tmp 74)) (some 75) none (.bool false) (by kernel_rfl) (by kernel_rfl) (by kernel_rfl) (fun _ _ _ h => h) (fun o' wq e hS => exec_move wq e (by kernel_rfl)) HS2.out ?_
          refine takeG 20 (.fieldAddr 59 (.tmp 6) 1) (some 76) (some (19, false)) (.pointer (some ⟨g6, 1, none⟩)) (by kernel_rfl) (by kernel_rfl) (by kernel_rfl) (fun _ _ _ h => h) (fun o' wq e hS => exec_field (u := .pointer (some ⟨g6, 0, none⟩)) wq e (by kernel_rfl) (by kernel_rfl)) HS2.out ?_
          refine takeG 21 (.load 9 (.tmp 76)) (some 77) (some (19, false)) (.string x4.s) (by kernel_rfl) (by kernel_rfl) (by kernel_rfl) (fun _ _ _ h => h) (fun o' wq e hS => exec_load (x := (.tmp 76)) e (by kernel_rfl) (HLP.out wq hS).2) HS2.out ?_
          refine takeG 22 (.call ⟨.builtin .len, #[(.tmp 77)], #[9]⟩) (some 78) (some (19, false)) (.int .i64 (x4.s.size : Int)) (by kernel_rfl) (by kernel_rfl) (by kernel_rfl) (fun _ _ _ h => h) (fun o' wq e hS => exec_len (u := .string x4.s) wq e (by kernel_rfl) (by kernel_rfl)) HS2.out ?_
          refine takeG 23 (.binOp .gtr 3 (.tmp 78) (.const (.int .i64 56)) 3) (some 79) (some (19, false)) (.bool true) (by kernel_rfl) (by kernel_rfl) (by kernel_rfl) (fun _ _ _ h => h) (fun o' wq e hS => exec_bin (u1 := .int .i64 (x4.s.size : Int)) (u2 := (.int .i64 56)) wq e (by kernel_rfl) (by kernel_rfl) (eqG_int ..) (gtr_T h5 _)) HS2.out ?_
          refine lastS 24 (.pick (.tmp 75) (.const (Value.bool true)) (.tmp 79)) (some 80) (.bool true) (by kernel_rfl) (by kernel_rfl) (by kernel_rfl) HS2.out (fun o' e => exec_pick (b := false) _ e (by kernel_rfl) (by kernel_rfl)) ?_
          simp only [put_some, put_none, List.setIfInBounds_toArray, List.set_cons_succ, List.set_cons_zero]
          have L6 : Hid (Below w.heap.size w y2) := Lib.hid (L5.out.trans (HS2.out.mono L5.out.size))
          have HX6 : Hid (Blk y2 g6 59 #[.bool false, .string x4.s]) := Lib.hid ((HS2.out.block g6 HX5.out.lt).trans HX5.out)
          have HNO : Hid (∀ p, ¬ Is L b k p) := Lib.hid fun p hp => by
            obtain ⟨e3, e4⟩ := HGD.out.one (Gd.of hp)
            have h6 := hp.1.s
            have h7 : x4.s = p.s := by rw [e4]
            rw [h7] at h5
            omega
          clear HS0 h4
          have z := HX6.out
          have d0 := z.cell 0
          have d1 := z.cell 1
          have e0 := z.frozen 0
          have e1 := z.frozen 1
          simp only [List.getElem?_toArray, List.getElem?_cons_zero, List.getElem?_cons_succ] at d0 d1
          have HZ := Lib.hid z
          clear z
          go_wp2_with fail
          refine bodyPost_ret (results_cell2 rfl rfl (loadVar_blk ((HZ.out.set_ 0 (.bool false)).set_ 1 (.string ⟨#[]⟩)) Tryd.underlying59 rfl isize_piece) rfl) rfl ?_
          exact ⟨.inr ⟨HNO.out, rfl⟩, (L6.out.setCell (p := ⟨g6, 0, none⟩) HG6.out _).setCell (p := ⟨g6, 1, none⟩) HG6.out _⟩
        refine region_anyZ (fun W => Below w5.heap.size w5 W) 25 (by kernel_rfl) ?_
        refine takeG 0 (.fieldAddr 59 (.tmp 6) 0) (some 56) none (.pointer (some ⟨g6, 0, none⟩)) (by kernel_rfl) (by kernel_rfl) (by kernel_rfl) (fun _ _ _ h => h) (fun o' wq e hS => exec_field (u := .pointer (some ⟨g6, 0, none⟩)) wq e (by kernel_rfl) (by kernel_rfl)) HS0.out ?_
        refine takeG 1 (.load 4 (.tmp 56)) (some 57) none (.bool false) (by kernel_rfl) (by kernel_rfl) (by kernel_rfl) (fun _ _ _ h => h) (fun o' wq e hS => exec_load (x := (.tmp 56)) e (by kernel_rfl) (HLP.out wq hS).1) HS0.out ?_
        refine takeG 2 (.unOp .not 4 (.tmp 57)) (some 58) none (.bool true) (by kernel_rfl) (by kernel_rfl) (by kernel_rfl) (fun _ _ _ h => h) (fun o' wq e hS => exec_un (u := .bool false) wq e (by kernel_rfl) (by kernel_rfl)) HS0.out ?_
        refine takeG 3 (.move (.tmp 58)) (some 59) none (.bool true) (by kernel_rfl) (by kernel_rfl) (by kernel_rfl) (fun _ _ _ h => h) (fun o' wq e hS => exec_move wq e (by kernel_rfl)) HS0.out ?_
        refine takeG 4 (.move (.tmp 8)) (some 60) (some (3, true)) (.slice (some ⟨gl, ol, none⟩) 5 c1) (by kernel_rfl) (by kernel_rfl) (by kernel_rfl) (fun _ _ _ h => h) (fun o' wq e hS => exec_move wq e (by kernel_rfl)) HS0.out ?_
        refine takeG 5 (.indexAddr 84 (.tmp 60) (.const (.int .i64 3))) (some 61) (some (3, true)) (.pointer (some ⟨gl, ol + 3 * 3, none⟩)) (by kernel_rfl) (by kernel_rfl) (by kernel_rfl) (fun _ _ _ h => h) (fun o' wq e hS => exec_index (u1 := .slice (some ⟨gl, ol, none⟩) 5 c1) (u2 := (.int .i64 3)) wq e (by kernel_rfl) (by kernel_rfl) (idx5 gl ol c1 3 (by omega) _)) HS0.out ?_
        refine takeG 6 (.load 81 (.tmp 61)) (some 62) (some (3, true)) (.agg (itA x3)) (by kernel_rfl) (by kernel_rfl) (by kernel_rfl) (fun _ _ _ h => h) (fun o' wq e hS => exec_load (x := (.tmp 61)) e (by kernel_rfl) (HLD.out wq hS 3 _ rfl)) HS0.out ?_
        refine loneG 7 (.call ⟨.value (.func 36), #[(.const (.int .i64 0))], #[3]⟩) (some 63) (some (3, true)) (by kernel_rfl) (by kernel_rfl) (by kernel_rfl) ?_
        intro o' ho hod
        refine wp_callC (f := 36) (args := #[.int .i64 0]) (by cases o'; cases ho; kernel_rfl) (number_it 0 _) ?_
        rintro e y1 ⟨rfl, by1⟩
        refine ⟨_, rfl, ?_⟩
        rw [hod]
        clear hod ho
        have HS1 : Hid (Below w5.heap.size w5 y1) := Lib.hid (tr_ HS0.out by1)
        clear by1
        refine ⟨fun _ => HS1.out, ?_⟩
        refine takeG 8 (.binOp .neq 81 (.tmp 62) (.tmp 63) 81) (some 64) (some (3, true)) (.bool false) (by kernel_rfl) (by kernel_rfl) (by kernel_rfl) (fun _ _ _ h => h) (fun o' wq e hS => exec_bin (u1 := .agg (itA x3)) (u2 := .agg (itA ⟨1, 0, ⟨#[]⟩⟩)) wq e (by kernel_rfl) (by kernel_rfl) (guard_item ..) (neq_it h0 _)) HS1.out ?_
        refine takeG 9 (.pick (.tmp 59) (.tmp 64) (.const (Value.bool false))) (some 65) none (.bool false) (by kernel_rfl) (by kernel_rfl) (by kernel_rfl) (fun _ _ _ h => h) (fun o' wq e hS => exec_pick (b := true) wq e (by kernel_rfl) (by kernel_rfl)) HS1.out ?_
        refine takeG 10 (.move (.tmp 65)) (some 66) none (.bool false) (by kernel_rfl) (by kernel_rfl) (by kernel_rfl) (fun _ _ _ h => h) (fun o' wq e hS => exec_move wq e (by kernel_rfl)) HS1.out ?_
        refine takeG 11 (.move (.tmp 8)) (some 67) (some (10, false)) (.slice (some ⟨gl, ol, none⟩) 5 c1) (by kernel_rfl) (by kernel_rfl) (by kernel_rfl) (fun _ _ _ h => h) (fun o' wq e hS => exec_move wq e (by kernel_rfl)) HS1.out ?_
        refine takeG 12 (.indexAddr 84 (.tmp 67) (.const (.int .i64 4))) (some 68) (some (10, false)) (.pointer (some ⟨gl, ol + 4 * 3, none⟩)) (by kernel_rfl) (by kernel_rfl) (by kernel_rfl) (fun _ _ _ h => h) (fun o' wq e hS => exec_index (u1 := .slice (some ⟨gl, ol, none⟩) 5 c1) (u2 := (.int .i64 4)) wq e (by kernel_rfl) (by kernel_rfl) (idx5 gl ol c1 4 (by omega) _)) HS1.out ?_
        refine takeG 13 (.load 81 (.tmp 68)) (some 69) (some (10, false)) (.agg (itA x4)) (by kernel_rfl) (by kernel_rfl) (by kernel_rfl) (fun _ _ _ h => h) (fun o' wq e hS => exec_load (x := (.tmp 68)) e (by kernel_rfl) (HLD.out wq hS 4 _ rfl)) HS1.out ?_
        refine takeG 14 (.fieldAddr 59 (.tmp 6) 1) (some 70) (some (10, false)) (.pointer (some ⟨g6, 1, none⟩)) (by kernel_rfl) (by kernel_rfl) (by kernel_rfl) (fun _ _ _ h => h) (fun o' wq e hS => exec_field (u := .pointer (some ⟨g6, 0, none⟩)) wq e (by kernel_rfl) (by kernel_rfl)) HS1.out ?_
        refine takeG 15 (.load 9 (.tmp 70)) (some 71) (some (10, false)) (.string x4.s) (by kernel_rfl) (by kernel_rfl) (by kernel_rfl) (fun _ _ _ h => h) (fun o' wq e hS => exec_load (x := (.tmp 70)) e (by kernel_rfl) (HLP.out wq hS).2) HS1.out ?_
        refine loneG 16 (.call ⟨.value (.func 37), #[(.tmp 71)], #[9]⟩) (some 72) (some (10, false)) (by kernel_rfl) (by kernel_rfl) (by kernel_rfl) ?_
        intro o' ho hod
        refine wp_callC (f := 37) (args := #[.string x4.s]) (by cases o'; cases ho; kernel_rfl) (text_it x4.s _) ?_
        rintro e y2 ⟨rfl, by2⟩
        refine ⟨_, rfl, ?_⟩
        rw [hod]
        clear hod ho
        have HS2 : Hid (Below w5.heap.size w5 y2) := Lib.hid (tr_ HS1.out by2)
        clear by2
        refine ⟨fun _ => HS2.out, ?_⟩
        refine takeG 17 (.binOp .neq 81 (.tmp 69) (.tmp 72) 81) (some 73) (some (10, false)) (.bool false) (by kernel_rfl) (by kernel_rfl) (by kernel_rfl) (fun _ _ _ h => h) (fun o' wq e hS => exec_bin (u1 := .agg (itA x4)) (u2 := .agg (itA ⟨2, 0, x4.s⟩)) wq e (by kernel_rfl) (by kernel_rfl) (guard_item ..) (neq_it h4 _)) HS2.out ?_
        refine takeG 18 (.pick (.tmp 66) (.const (Value.bool true)) (.tmp 73)) (some 74) none (.bool false) (by kernel_rfl) (by kernel_rfl) (by kernel_rfl) (fun _ _ _ h => h) (fun o' wq e hS => exec_pick (b := false) wq e (by kernel_rfl) (by kernel_rfl)) HS2.out ?_
        refine takeG 19 (.move (.tmp 74)) (some 75) none (.bool false) (by kernel_rfl) (by kernel_rfl) (by kernel_rfl) (fun _ _ _ h => h) (fun o' wq e hS => exec_move wq e (by kernel_rfl)) HS2.out ?_
        refine takeG 20 (.fieldAddr 59 (.tmp 6) 1) (some 76) (some (19, false)) (.pointer (some ⟨g6, 1, none⟩)) (by kernel_rfl) (by kernel_rfl) (by kernel_rfl) (fun _ _ _ h => h) (fun o' wq e hS => exec_field (u := .pointer (some ⟨g6, 0, none⟩)) wq e (by kernel_rfl) (by kernel_rfl)) HS2.out ?_
        refine takeG 21 (.load 9 (.tmp 76)) (some 77) (some (19, false)) (.string x4.s) (by kernel_rfl) (by kernel_rfl) (by kernel_rfl) (fun _ _ _ h => h) (fun o' wq e hS => exec_load (x := (.tmp 76)) e (by kernel_rfl) (HLP.out wq hS).2) HS2.out ?_
        refine takeG 22 (.call ⟨.builtin .len, #[(.tmp 77)], #[9]⟩) (some 78) (some (19, false)) (.int .i64 (x4.s.size : Int)) (by kernel_rfl) (by kernel_rfl) (by kernel_rfl) (fun _ _ _ h => h) (fun o' wq e hS => exec_len (u := .string x4.s) wq e (by kernel_rfl) (by kernel_rfl)) HS2.out ?_
        refine takeG 23 (.binOp .gtr 3 (.tmp 78) (.const (.int .i64 56)) 3) (some 79) (some (19, false)) (.bool false) (by kernel_rfl) (by kernel_rfl) (by kernel_rfl) (fun _ _ _ h => h) (fun o' wq e hS => exec_bin (u1 := .int .i64 (x4.s.size : Int)) (u2 := (.int .i64 56)) wq e (by kernel_rfl) (by kernel_rfl) (eqG_int ..) (gtr_F h5 _)) HS2.out ?_
        refine lastS 24 (.pick (.tmp 75) (.const (Value.bool true)) (.tmp 79)) (some 80) (.bool false) (by kernel_rfl) (by kernel_rfl) (by kernel_rfl) HS2.out (fun o' e => exec_pick (b := false) _ e (by kernel_rfl) (by kernel_rfl)) ?_
        simp only [put_some, put_none, List.setIfInBounds_toArray, List.set_cons_succ, List.set_cons_zero]
        have L6 : Hid (Below w.heap.size w y2) := Lib.hid (L5.out.trans (HS2.out.mono L5.out.size))
        have HX6 : Hid (Blk y2 g6 59 #[.bool false, .string x4.s]) := Lib.hid ((HS2.out.block g6 HX5.out.lt).trans HX5.out)
        have HIS : Hid (Is L b k ⟨false, x4.s⟩) := Lib.hid (is_of HL.out HGD.out.1 (by rw [HGD.out.2]; show _ = itsI b k ⟨false, x4.s⟩; unfold itsI bit; rw [h0]; rw [← h4]; rfl) HZ.out.1 HZ.out.2 h5)
        have d0 := HX6.out.cell 0
        have d1 := HX6.out.cell 1
        have e0 := HX6.out.frozen 0
        have e1 := HX6.out.frozen 1
        simp only [List.getElem?_toArray, List.getElem?_cons_zero, List.getElem?_cons_succ] at d0 d1
        clear HS0 h3 h4
        go_wp2_with fail
        refine bodyPost_ret (results_cell2 rfl rfl (loadVar_blk ((HX6.out.set_ 0 (.bool false)).set_ 1 (.string x4.s)) Tryd.underlying59 rfl isize_piece) rfl) rfl ?_
        exact ⟨.inl ⟨_, HIS.out, rfl⟩, (L6.out.setCell (p := ⟨g6, 0, none⟩) HG6.out _).setCell (p := ⟨g6, 1, none⟩) HG6.out _⟩
end Itn
end Go.Proofs.YtikenhcglbfgpaaDoor
