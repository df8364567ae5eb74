/-
  'slices.Replace' of ranges in the call's own row by one contract. Conditions: the rows are short; at most two ranges are put, from a block of their own; no more than two are struck.
-/
import Derived.Test.YtpbojhjbjnoihaaSpcRep2
namespace Go.Proofs.Ytpbojhjbjnoihaa
open Go Go.RowKit
set_option maxRecDepth 100000
set_option linter.unusedVariables false
namespace Sp
theorem run_append_room2 {w : World} {base g n c m : Nat} {x : Value} {l d : List Rg} (h : Own w base (.slice (some ⟨g, 0, none⟩) n c) l) (hs : Sr w x d) (hm : m = d.length) {i : Nat} (hi : i + m ≤ c) (ty : TypeId) :
    (Builtin.append_ #[31, 31] ty #[.slice (some ⟨g, 0, none⟩) i c, x]).run Try.prog w = .ok (.slice (some ⟨g, 0, none⟩) (i + m) c) (w.setCells g (i * 2) (rcells d)) := by
  obtain ⟨i0, hi0, hz0, hz1, hz2⟩ := info_parts infoR
  have r1 := h.room.1
  have r2 := h.room.2.1
  have hr := run_append_room_src (P := Try.prog) w 31 31 ty 34 i0 Try.underlying31 hi0 g 0 i c x d.length (rcells d) (by rw [hz1]; exact hs) (by omega)
    (fun j hj => by rw [hz1, Nat.zero_add]; rw [rcells_length] at hj; exact r1 _ (by omega)) (fun j _ => r2 _)
  rw [hz1, Nat.zero_add, ← hm] at hr
  exact hr
theorem wpList_app_rg (w : World) {ops : Array Oper} {rest : List Oper} {o : Oper} {a : Act} {Q : Exit → Act → World → Prop} (hgd : o.guard = none) (s y : Operand)
    (ho : o.op = .call { callee := .builtin .append, args := #[s, y], argTypes := #[31, 31] }) (v u : Value) (hd : a.eval s = v) (hs : a.eval y = u) {v' : Value} {w' : World}
    (hr : (Builtin.append_ #[31, 31] o.type #[v, u]).run Try.prog w = .ok v' w') (h : wpList Try.prog ops Q rest (a.put o.dst v') w') : wpList Try.prog ops Q (o :: rest) a w := by
  refine wpList_plain hgd fun K hK' => ?_
  unfold Oper.wp execOp
  simp only [ho, resolve, invoke, builtin, Sem.run_bind, Sem.run_pure, Result.andThen_ok, List.map_toArray, List.map_cons, List.map_nil, hd, hs, hr]
  exact hK' _ _ h
set_option maxHeartbeats 1600000 in
/-- at the end, where there is room, and something is cleared -/
theorem replace_end_less {w : World} {base g n c : Nat} {l d : List Rg} {x : Value} {m i : Nat} (h : Own w base (.slice (some ⟨g, 0, none⟩) n c) l) (hl : l.length ≤ 100000)
    (hx : Put w g x m d) (hij : i + m < n) :
    Calls Try.prog 47 #[.slice (some ⟨g, 0, none⟩) n c, .int .i64 (i : Int), .int .i64 (n : Int), x] w fun e w' => ∃ v', e = .returned v' ∧ Own w' base v' (l.take i ++ d) ∧ w.grownBy w' (some g) ∧ v'.ownBlock = some g := by
  have hn := h.room.2.2.2.2.1
  have hnc := h.room.2.2.2.2.2.1
  have hcm := h.room.2.2.2.2.2.2.1
  unfold maxLen at hcm
  have hm := hx.1
  obtain ⟨A, mc, rfl⟩ := hx.shape
  have c1 := run_append_room2 h hx.sr hm (i := i) (by omega)
  have hO1 := own_copy h (q := i) d (by omega) (by omega)
  rw [← hm] at hO1
  have hG1 := grown_setCells g (rcells d) (i * 2) w
  obtain ⟨W1, hW1⟩ : ∃ W1, W1 = w.setCells g (i * 2) (rcells d) := ⟨_, rfl⟩
  rw [← hW1] at c1 hO1 hG1
  have r1 := hO1.room.1
  have r2 := hO1.room.2.1
  have c3 : ∀ ty dc, (Builtin.clear_ #[31] ty #[.slice (some ⟨g, (i + m) * 2, none⟩) (n - (i + m)) dc]).run Try.prog W1 = .ok (.tuple #[]) (W1.setCells g ((i + m) * 2) (List.replicate ((n - (i + m)) * 2) (.int .i64 0))) := fun ty dc =>
    run_clear2 W1 ty g ((i + m) * 2) (n - (i + m)) dc (fun k hk => r1 _ (by omega)) (fun k hk => r2 _)
  have hO2 := own_behind hO1 (o := (i + m) * 2) (List.replicate ((n - (i + m)) * 2) (.int .i64 0)) (by rw [List.length_append, List.length_take]; omega)
  have hG2 := grown_tr hG1 (grown_setCells g (List.replicate ((n - (i + m)) * 2) (.int .i64 0)) ((i + m) * 2) W1)
  have C1 := Lib.hid c1
  have C3 := Lib.hid c3
  have HO := Lib.hid hO2
  have HG := Lib.hid hG2
  have hnb : n ≤ 100000 := by omega
  have hmb : m ≤ 100000 := by omega
  have t1 : ¬ ((i : Int) = (n : Int)) := by omega
  have t3 : ¬ (c = i) := by omega
  have t5 : ¬ (c = i + m) := by omega
  have hin : i ≤ n := by omega
  have hic : i + m ≤ n := by omega
  have t6 : (i : Int) + (m : Int) < (n : Int) := by omega
  clear hO1 hO2 hG1 hG2 hx r1 r2 c1 c3 h hn hm hW1
  go_enter Try.func47, Try.ntmps47
  go_wp2_with (at_builtin; go_loud (refine wpList_app_rg _ rfl (.tmp 32) (.tmp 33) rfl _ _ rfl rfl (C1.out _) ?_); refine unhid ?_)
  refine Lib.hid ?_
  go_wp2_with ((refine wpList_clear_rg _ rfl (.tmp 43) rfl _ rfl (C3.out _ _) ?_); refine unhid ?_)
  refine Lib.hid ?_
  go_wp2_with fail
  go_ret
  exact ⟨_, rfl, HO.out, HG.out, rfl⟩
set_option maxHeartbeats 1600000 in
/-- at the end, where nothing is cleared -/
theorem replace_end_more {w : World} {base g n c : Nat} {l d : List Rg} {x : Value} {m i : Nat} (h : Own w base (.slice (some ⟨g, 0, none⟩) n c) l) (hb : base ≤ w.heap.size) (hl : l.length ≤ 100000)
    (hx : Put w g x m d) (hm2 : m ≤ 2) (hin : i < n) (hij : n ≤ i + m) :
    Calls Try.prog 47 #[.slice (some ⟨g, 0, none⟩) n c, .int .i64 (i : Int), .int .i64 (n : Int), x] w fun e w' => ∃ v', e = .returned v' ∧ Own w' base v' (l.take i ++ d) ∧ w.grownBy w' (some g) ∧ (v'.ownBlock = some g ∨ v'.ownBlock = some w.heap.size) := by
  have hn := h.room.2.2.2.2.1
  have hnc := h.room.2.2.2.2.2.1
  have hcm := h.room.2.2.2.2.2.2.1
  unfold maxLen at hcm
  have hm := hx.1
  obtain ⟨A, mc, rfl⟩ := hx.shape
  have HT := Lib.hid (h.take (i := i) (by omega))
  have HS := Lib.hid hx.sr
  have HB := Lib.hid hb
  have HSZ : Hid ((l.take i).length + d.length ≤ 1000000) := Lib.hid (by rw [List.length_take]; omega)
  have HLL : Hid ((l.take i ++ d).length = i + m) := Lib.hid (by rw [List.length_append, List.length_take]; omega)
  have hnb : n ≤ 100000 := by omega
  have hmb : m ≤ 100000 := by omega
  have t1 : ¬ ((i : Int) = (n : Int)) := by omega
  have t3 : ¬ (c = i) := by omega
  have hin' : i ≤ n := by omega
  have t6 : ¬ ((i : Int) + (m : Int) < (n : Int)) := by omega
  clear hx h hn hm hm2 hij
  go_enter Try.func47, Try.ntmps47
  go_wp2_with (at_builtin; refine wpList_append_rg rfl (.tmp 32) (.tmp 33) rfl rfl rfl HT.out HS.out HSZ.out HB.out ?_; intro v' w' ho hg hor; refine unhid ?_)
  refine Lib.hid ?_
  obtain ⟨A', c', rfl, _, _, _, _⟩ := ho.shape
  have O := Lib.hid (⟨ho, hg, hor⟩ : _ ∧ _ ∧ _)
  rw [HLL.out] at O ⊢
  clear ho hg hor
  go_wp2_with fail
  go_ret
  exact ⟨_, rfl, O.out⟩
set_option maxHeartbeats 1600000 in
/-- nothing is struck -/
theorem replace_ins {w : World} {base : Nat} {A : Option Addr} {n c i m : Nat} {x : Value} {R : Value → World → Prop} (hin : i ≤ n) (hnb : n ≤ 100000) (hnc : n ≤ c) (hcm : c ≤ maxLen) (hA : A = none → c = 0) (hx : ∃ X mc, x = .slice X m mc)
    (h : Calls Try.prog 52 #[.slice A n c, .int .i64 (i : Int), x] w fun e w' => ∃ v', e = .returned v' ∧ R v' w') :
    Calls Try.prog 47 #[.slice A n c, .int .i64 (i : Int), .int .i64 (i : Int), x] w fun e w' => ∃ v', e = .returned v' ∧ R v' w' := by
  have HH := Lib.hid h
  obtain ⟨X, mc, rfl⟩ := hx
  unfold maxLen at hcm
  clear h
  cases A with
  | none =>
    obtain rfl := hA rfl
    obtain rfl : n = 0 := by omega
    obtain rfl : i = 0 := by omega
    go_enter Try.func47, Try.ntmps47
    go_wp2_with fail
    refine HH.out.mono ?_
    rintro e w' ⟨v', rfl, hq⟩
    have HQ := Lib.hid hq
    clear hq
    go_wp2_with fail
    go_ret
    exact ⟨_, rfl, HQ.out⟩
  | some ad =>
    obtain ⟨ab, ao, asp⟩ := ad
    by_cases hci : c = i
    · subst hci
      go_enter Try.func47, Try.ntmps47
      go_wp2_with fail
      refine HH.out.mono ?_
      rintro e w' ⟨v', rfl, hq⟩
      have HQ := Lib.hid hq
      clear hq
      go_wp2_with fail
      go_ret
      exact ⟨_, rfl, HQ.out⟩
    · go_enter Try.func47, Try.ntmps47
      go_wp2_with fail
      refine HH.out.mono ?_
      rintro e w' ⟨v', rfl, hq⟩
      have HQ := Lib.hid hq
      clear hq
      go_wp2_with fail
      go_ret
      exact ⟨_, rfl, HQ.out⟩
end Sp
end Go.Proofs.Ytpbojhjbjnoihaa
