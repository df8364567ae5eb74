/-
  The document's rack by contracts: Flush, Crash. Conditions: the rack is one; what waits has a place on it.
-/
import Derived.Test.YthioanenljpclaaGreatDoorRefLastM
import Derived.Test.YthioanenljpclaaGreatDoorLawIntsM
import Derived.Maps.AppendAt
namespace Go.Proofs.YthioanenljpclaaGreatDoor
open Go Go.RowKit
set_option maxRecDepth 100000
set_option linter.unusedVariables false
namespace refRack
section
variable {B : Nat} {w w' : World} {g : Nat} {s : RS} {vL vG vW : Value} {H C : Nat → Nat}
/-- the places of what waits -/
def Places (s : RS) : Prop := ∀ i, i < s.nw → (s.W i).d < s.nd ∧ (s.W i).a < s.ns
theorem TK.setW (h : TK B w g s vL vG vW H C) {vW' : Value} {n' : Nat} {W' : Nat → Wt} (hw : (w.setCell ⟨g, 2, none⟩ vW').ownsRow B 92 3 vW' n' (waitL W' n')) :
    TK B (w.setCell ⟨g, 2, none⟩ vW') g { s with nw := n', W := W' } vL vG vW' H C := by
  have ok : ∀ {n c : Nat} {t : TypeId} {v : Value} {xs : List Value}, (t == 74) = false → w.ownsRow B t c v n xs → (w.setCell ⟨g, 2, none⟩ vW').ownsRow B t c v n xs := fun he h1 => own_keep h1 fun g1 hg1 => Below.heap_setCell w ⟨g, 2, none⟩ vW' g1 (fun e => own_not_blk h1 h.blk he (by rw [hg1]; exact congrArg some e))
  exact ⟨h.blk.set_ 2 vW', h.hg, ok rfl h.heads, fun d hd => ok rfl (h.rows d hd), h.apart, ok rfl h.lost, hw⟩
theorem TK.noW (h : TK B w g s vL vG vW H C) : TK B (w.setCell ⟨g, 2, none⟩ (.slice none 0 0)) g { s with nw := 0 } vL vG (.slice none 0 0) H C :=
  h.setW (W' := s.W) (n' := 0) ⟨rfl, .inl ⟨rfl, rfl⟩⟩
/-- behind k of those that wait -/
def layS (s : RS) (P : Nat → Bool) (k : Nat) : RS := { s with last := s.lay P k }
theorem layS_yes {s : RS} {P : Nat → Bool} {k : Nat} (hp : P k = true) : ({ layS s P k with last := fun d' a' => if d' = (s.W k).d ∧ a' = (s.W k).a then (s.W k).x else (layS s P k).last d' a' } : RS) = layS s P (k + 1) := by
  have e : (fun d' a' => if d' = (s.W k).d ∧ a' = (s.W k).a then (s.W k).x else s.lay P k d' a') = s.lay P (k + 1) := by
    funext d' a'
    show _ = if P k = true ∧ (s.W k).d = d' ∧ (s.W k).a = a' then (s.W k).x else s.lay P k d' a'
    by_cases e : d' = (s.W k).d ∧ a' = (s.W k).a
    · rw [if_pos e, if_pos ⟨hp, e.1.symm, e.2.symm⟩]
    · rw [if_neg e, if_neg (fun q => e ⟨q.2.1.symm, q.2.2.symm⟩)]
  show RS.mk s.nd s.ns (fun d' a' => if d' = (s.W k).d ∧ a' = (s.W k).a then (s.W k).x else s.lay P k d' a') s.nw s.W s.gone s.off s.armed s.left s.cost = RS.mk s.nd s.ns (s.lay P (k + 1)) s.nw s.W s.gone s.off s.armed s.left s.cost
  rw [e]
theorem layS_no {s : RS} {P : Nat → Bool} {k : Nat} (hp : P k = false) : layS s P k = layS s P (k + 1) := by
  have e : s.lay P k = s.lay P (k + 1) := by
    funext d' a'
    show _ = if P k = true ∧ (s.W k).d = d' ∧ (s.W k).a = a' then (s.W k).x else s.lay P k d' a'
    rw [if_neg (fun q => by rw [hp] at q; cases q.1)]
  show RS.mk s.nd s.ns (s.lay P k) s.nw s.W s.gone s.off s.armed s.left s.cost = RS.mk s.nd s.ns (s.lay P (k + 1)) s.nw s.W s.gone s.off s.armed s.left s.cost
  rw [e]
theorem lay_rest {s : RS} {P : Nat → Bool} {n : Nat} (hp : ∀ k, n ≤ k → P k = false) : ∀ k, s.lay P (n + k) = s.lay P n
  | 0 => rfl
  | k + 1 => by
    rw [← lay_rest hp k]
    funext d' a'
    show (if P (n + k) = true ∧ (s.W (n + k)).d = d' ∧ (s.W (n + k)).a = a' then (s.W (n + k)).x else s.lay P (n + k) d' a') = _
    rw [if_neg (fun q => by rw [hp (n + k) (by omega)] at q; cases q.1)]
set_option maxHeartbeats 1600000 in
theorem flush_k (w : World) (g : Nat) (s : RS) (hl : s.left ≤ 9223372036854775807) (hp : Places s) (h : TK B w g s vL vG vW H C) :
    Calls Tryz.prog 11 #[.pointer (some ⟨g, 0, none⟩)] w fun e w' => e = .returned (.int .i64 (if s.pow then 0 else 16)) ∧ TAt B w' g (if s.pow then s.spent.flushed else s.spent) ∧ KeepR B w w' := by
  have hs := spend_k w g s hl h
  obtain ⟨q1, q2, q3, q4, q5, q6, q7⟩ := spent_same s
  have HP : Hid (Places s.spent) := Lib.hid fun i hi => by rw [q1, q2, q4]; exact hp i (by rw [← q3]; exact hi)
  clear hp q1 q2 q3 q4 q5 q6 q7
  generalize s.spent = s1 at *
  cases hpow : s.pow with
  | false =>
    rw [hpow] at hs
    have HS := Lib.hid hs
    clear hs h hpow
    go_enter Tryz.func11, Tryz.ntmps11
    go_wp2_with fail
    refine HS.out.mono ?_
    rintro e w1 ⟨rfl, h1, k1⟩
    have H1 := Lib.hid h1
    have K1 := Lib.hid k1
    clear h1 k1 HS
    go_wp2_with fail
    go_ret
    exact ⟨rfl, ⟨_, _, _, _, _, H1.out⟩, K1.out⟩
  | true =>
    rw [hpow] at hs
    have HS := Lib.hid hs
    clear hs h hpow
    go_enter Tryz.func11, Tryz.ntmps11
    go_wp2_with fail
    refine HS.out.mono ?_
    rintro e w1 ⟨rfl, h1, k1⟩
    have hm := h1.nw_le
    unfold maxLen at hm
    have H1 : Hid (TK B w1 g (layS s1 (fun _ => true) 0) vL vG vW H C) := Lib.hid h1
    have K1 := Lib.hid k1
    obtain ⟨A, c, rfl, _⟩ := h1.shapeW
    clear h1 k1 HS
    obtain ⟨m, hmn⟩ : ∃ m, m = s1.nw := ⟨_, rfl⟩
    rw [← hmn] at hm
    have HM := Lib.hid hmn
    clear hmn
    go_wp2_with fail
    go_loopw [3] (fun x wr => ∃ i : Nat, i ≤ m ∧ x = .int .i64 i ∧ Hid (TK B wr g (layS s1 (fun _ => true) i) vL vG (.slice A s1.nw c) H C) ∧ Hid (KeepR B w wr)) (fun x _ => m - (intOf x).toNat)
    case atStart => exact ⟨0, by omega, rfl, H1, K1⟩
    case round =>
      obtain ⟨i, hi, rfl, H2, K2⟩ := hrel
      clear H1 K1
      have c2 := H2.out.c2
      rw [← HM.out] at c2
      by_cases hlt : i < m
      · have i1 : (i : Int) < (m : Int) := by omega
        have i0 : (0 : Int) ≤ (i : Int) := by omega
        have hpl := HP.out i (by rw [← HM.out]; exact hlt)
        obtain ⟨l, c', e, k0, k1, k2⟩ := H2.out.wait (i := i) (by show i < s1.nw; rw [← HM.out]; exact hlt)
        injection e with e _ e2
        subst e
        have HL := Lib.hid (fun W (hk : TK B W g (layS s1 (fun _ => true) i) vL vG (.slice (some ⟨l, 0, none⟩) s1.nw c) H C) => last_k W g _ (s1.W i).d (s1.W i).a (s1.W i).x hk hpl.1 hpl.2)
        change wr.cell? _ = some (.int .i64 ((s1.W i).d : Int)) at k0
        change wr.cell? _ = some (.int .i64 ((s1.W i).a : Int)) at k1
        change wr.cell? _ = some (textV (s1.W i).x) at k2
        clear hpl e2
        go_wp2_with fail
        refine (HL.out wr H2.out).mono ?_
        rintro e w3 ⟨rfl, h3, k3⟩
        have H3 : Hid (TK B w3 g (layS s1 (fun _ => true) (i + 1)) vL vG (.slice (some ⟨l, 0, none⟩) s1.nw c) H C) := Lib.hid (by rw [← layS_yes (s := s1) (P := fun _ => true) (k := i) rfl]; exact h3)
        have K3 := Lib.hid (K2.out.trans k3)
        clear h3 k3 H2 K2 k0 k1 k2 c2 HL
        go_wp2_with fail
        go_roundw
        case rel => exact ⟨i + 1, by omega, by go_num, H3, K3⟩
        case measure => simp [intOf]; omega
      · obtain rfl : m = i := by omega
        have f2 := H2.out.frozen 2
        have H3 := Lib.hid H2.out.noW
        have K3 := Lib.hid (K2.out.put H2.out 2 (.slice none 0 0))
        have hm2 := HM.out
        clear hlt hi H2 K2
        go_wp2_with fail
        go_ret
        have h : TK B (wr.setCell ⟨g, 2, none⟩ (.slice none 0 0)) g s1.flushed vL vG (.slice none 0 0) H C := by
          have h := H3.out
          rw [hm2] at h
          exact h
        exact ⟨rfl, ⟨_, _, _, _, _, h⟩, K3.out⟩
end
end refRack
end Go.Proofs.YthioanenljpclaaGreatDoor
namespace Go.Proofs.YthioanenljpclaaGreatDoor
open Go Go.RowKit
set_option maxRecDepth 100000
set_option linter.unusedVariables false
namespace refRack
section
variable {B : Nat} {w w' : World} {g : Nat} {s : RS} {vL vG vW : Value} {H C : Nat → Nat}
theorem TK.crashed3 (h : TK B w g s vL vG vW H C) :
    TK B (((w.setCell ⟨g, 2, none⟩ (.slice none 0 0)).setCell ⟨g, 3, none⟩ (.bool false)).setCell ⟨g, 4, none⟩ (.int .i64 (-1))) g { s with nw := 0, off := false, armed := false, left := 0 } vL vG (.slice none 0 0) H C := by
  have h1 := h.noW
  have h2 := h1.power (i := 3) (u := .bool false) (off := false) (armed := s.armed) (left := s.left) rfl
  exact h2.power (i := 4) (u := .int .i64 (-1)) (off := false) (armed := false) (left := 0) rfl
set_option maxHeartbeats 1600000 in
theorem crash_k (w : World) (g : Nat) (s : RS) (pa : Option Addr) (pn pc : Nat) (p : Nat → Int) (hp : Places s) (hi : RdI w B pa pn p) (h : TK B w g s vL vG vW H C) :
    Calls Tryz.prog 13 #[.pointer (some ⟨g, 0, none⟩), .slice pa pn pc] w fun e w' => e = .returned (.tuple #[]) ∧ TAt B w' g (s.crashed (odd pn p)) ∧ KeepR B w w' := by
  have HP := Lib.hid hp
  have HI := Lib.hid hi
  have hm := h.nw_le
  unfold maxLen at hm
  have H1 : Hid (TK B w g (layS s (odd pn p) 0) vL vG vW H C) := Lib.hid h
  have K1 := Lib.hid (KeepR.refl B w)
  obtain ⟨A, c, rfl, _⟩ := h.shapeW
  clear h hp hi
  obtain ⟨m, hmn⟩ : ∃ m, m = s.nw := ⟨_, rfl⟩
  rw [← hmn] at hm
  have HM := Lib.hid hmn
  clear hmn
  go_enter Tryz.func13, Tryz.ntmps13
  go_wp2_with fail
  go_loopw [4] (fun x wr => ∃ i : Nat, i ≤ m ∧ x = .int .i64 i ∧ Hid (TK B wr g (layS s (odd pn p) i) vL vG (.slice A s.nw c) H C) ∧ Hid (KeepR B w wr)) (fun x _ => m - (intOf x).toNat)
  case atStart => exact ⟨0, by omega, rfl, H1, K1⟩
  case round =>
    obtain ⟨i, hi, rfl, H2, K2⟩ := hrel
    clear H1 K1
    have c2 := H2.out.c2
    rw [← HM.out] at c2
    by_cases hgo : i < m ∧ i < pn
    · obtain ⟨hlt, hpn⟩ := hgo
      have t1 : decide (i < m) = true := by simpa using hlt
      have t2 : decide (i < pn) = true := by simpa using hpn
      have i1 : (i : Int) < (m : Int) := by omega
      have i0 : (0 : Int) ≤ (i : Int) := by omega
      have i2 : (i : Int) < (pn : Int) := by omega
      obtain ⟨pb, po, rfl, hpB, hpc, _⟩ := HI.out i hpn
      have cp := (K2.out.below.cell (p := ⟨pb, po + i, none⟩) hpB).trans hpc
      clear hpc
      by_cases hodd : (p i).tmod 2 = 0
      · have t3 : ((p i).tmod 2 != 0) = false := by rw [hodd]; rfl
        have hP : odd pn p i = false := by unfold odd; simp [hodd]
        have H3 : Hid (TK B wr g (layS s (odd pn p) (i + 1)) vL vG (.slice A s.nw c) H C) := Lib.hid (by rw [← layS_no hP]; exact H2.out)
        clear H2 hodd hP
        generalize p i = y at cp t3
        go_wp2_with fail
        go_roundw
        case rel => exact ⟨i + 1, by omega, by go_num, H3, K2⟩
        case measure => simp [intOf]; omega
      · have t3 : ((p i).tmod 2 != 0) = true := by simpa using hodd
        have hP : odd pn p i = true := by unfold odd; simp [hodd, hpn]
        have HPI := Lib.hid hP
        have hpl := HP.out i (by rw [← HM.out]; exact hlt)
        obtain ⟨l, c', e, k0, k1, k2⟩ := H2.out.wait (i := i) (by show i < s.nw; rw [← HM.out]; exact hlt)
        injection e with e _ e2
        subst e
        have HL := Lib.hid (fun W (hk : TK B W g (layS s (odd pn p) i) vL vG (.slice (some ⟨l, 0, none⟩) s.nw c) H C) => last_k W g _ (s.W i).d (s.W i).a (s.W i).x hk hpl.1 hpl.2)
        change wr.cell? _ = some (.int .i64 ((s.W i).d : Int)) at k0
        change wr.cell? _ = some (.int .i64 ((s.W i).a : Int)) at k1
        change wr.cell? _ = some (textV (s.W i).x) at k2
        clear hpl e2 hodd hP
        generalize p i = y at cp t3
        go_wp2_with fail
        refine (HL.out wr H2.out).mono ?_
        rintro e w3 ⟨rfl, h3, k3⟩
        have H3 : Hid (TK B w3 g (layS s (odd pn p) (i + 1)) vL vG (.slice (some ⟨l, 0, none⟩) s.nw c) H C) := Lib.hid (by rw [← layS_yes (s := s) (P := odd pn p) (k := i) HPI.out]; exact h3)
        have K3 := Lib.hid (K2.out.trans k3)
        clear h3 k3 H2 K2 k0 k1 k2 c2 HL cp
        go_wp2_with fail
        go_roundw
        case rel => exact ⟨i + 1, by omega, by go_num, H3, K3⟩
        case measure => simp [intOf]; omega
    · have hlay : s.lay (odd pn p) i = s.lay (odd pn p) s.nw := by
        by_cases e : i = m
        · rw [e, HM.out]
        · have hr := lay_rest (s := s) (P := odd pn p) (n := i) (fun k hk => by unfold odd; rw [decide_eq_false (by omega)]; rfl) (m - i)
          rw [show i + (m - i) = m by omega] at hr
          rw [← HM.out, hr]
      have h3 : TK B (((wr.setCell ⟨g, 2, none⟩ (.slice none 0 0)).setCell ⟨g, 3, none⟩ (.bool false)).setCell ⟨g, 4, none⟩ (.int .i64 (-1))) g (s.crashed (odd pn p)) vL vG (.slice none 0 0) H C := by
        have h := H2.out.crashed3
        unfold layS at h
        rw [hlay] at h
        exact h
      have k3 : KeepR B w (((wr.setCell ⟨g, 2, none⟩ (.slice none 0 0)).setCell ⟨g, 3, none⟩ (.bool false)).setCell ⟨g, 4, none⟩ (.int .i64 (-1))) := by
        have q1 := H2.out.noW
        have q2 := q1.power (i := 3) (u := .bool false) (off := false) (armed := s.armed) (left := s.left) rfl
        exact ((K2.out.put H2.out 2 (.slice none 0 0)).put q1 3 (.bool false)).put q2 4 (.int .i64 (-1))
      have H3 := Lib.hid h3
      have K3 := Lib.hid k3
      have f2 := H2.out.frozen 2
      have f3 := H2.out.frozen 3
      have f4 := H2.out.frozen 4
      have c3 := H2.out.c3
      have c4 := H2.out.c4
      clear h3 k3 hlay H2 K2
      by_cases hlt : i < m
      · have t1 : decide (i < m) = true := by simpa using hlt
        have t2 : decide (i < pn) = false := by simp; omega
        clear hgo
        go_wp2_with fail
        go_end0
        exact ⟨rfl, ⟨_, _, _, _, _, H3.out⟩, K3.out⟩
      · have t1 : decide (i < m) = false := by simpa using hlt
        clear hgo
        go_wp2_with fail
        go_end0
        exact ⟨rfl, ⟨_, _, _, _, _, H3.out⟩, K3.out⟩
end
end refRack
end Go.Proofs.YthioanenljpclaaGreatDoor
namespace Go.Proofs.YthioanenljpclaaGreatDoor
open Go Go.RowKit
set_option maxRecDepth 100000
set_option linter.unusedVariables false
namespace refRack
theorem info_waitR : (Tryz.prog.info? 92).map (fun i => (i.zero, i.size, i.bytes)) = some (some (.agg #[.int .i64 0, .int .i64 0, .string ⟨#[]⟩]), 3, 32) := by kernel_rfl
theorem info_parts3 {i? : Option TypeInfo} {z : Value} {s b : Nat} (h : i?.map (fun i => (i.zero, i.size, i.bytes)) = some (some z, s, b)) : ∃ i, i? = some i ∧ i.zero = some z ∧ i.size = s ∧ i.bytes = b := by
  cases i? with
  | none => simp at h
  | some i => simp at h; exact ⟨i, rfl, h.1, h.2.1, h.2.2⟩
theorem waitV_one (y : Wt) : ∀ u ∈ waitV y, u.oneCell' = true := fun u hu => by
  simp only [waitV, List.mem_cons, List.not_mem_nil, or_false] at hu
  rcases hu with rfl | rfl | rfl <;> rfl
theorem wpList_append_waitR {w : World} {ops : Array Oper} {rest : List Oper} {o : Oper} {a : Act} {Q : Exit → Act → World → Prop} (hgd : o.guard = none) (s x : Operand)
    (ho : o.op = .call { callee := .builtin .append, args := #[s, x], argTypes := #[72, 72] }) {base n c : Nat} {v : Value} {xs : List Value} {ad : Addr} {y : Wt} (hs : a.eval s = v) (hx : a.eval x = .slice (some ad) 1 c)
    (hown : w.ownsRow base 92 3 v n xs) (hnews : ∀ j u, (waitV y)[j]? = some u → w.cell? (ad.add j) = some u) (hn : n + 1 ≤ 2000000) (hb : base ≤ w.heap.size)
    (h : ∀ v' w', w'.ownsRow base 92 3 v' (n + 1) (xs ++ waitV y) → w.grownBy w' v.ownBlock → wpList Tryz.prog ops Q rest (a.put o.dst v') w') : wpList Tryz.prog ops Q (o :: rest) a w := by
  obtain ⟨i0, hi, hz0, hz1, hz2⟩ := info_parts3 info_waitR
  exact wpList_append_own_at (P := Tryz.prog) w hgd s x 72 ho base 92 i0 _ 3 32 Tryz.underlying72 hi hz0 hz1 hz2 rfl (by omega) v n xs hs hown ad 1 c (waitV y) hx rfl hnews (waitV_one y) (by unfold maxLen; omega) (by omega) hb fun v' w' h1 h2 _ _ => h v' w' h1 h2
theorem wait_new (w : World) (y : Wt) : ∀ j u, (waitV y)[j]? = some u → (w.alloc (.cells #[.int .i64 (y.d : Int), .int .i64 (y.a : Int), textV y.x] 92)).cell? ((⟨w.heap.size, 0, none⟩ : Addr).add j) = some u := by
  intro j u hj
  rw [add_plain, Nat.zero_add, cell_of_row _ _ _ _ _ _ (Blk.new w 92 #[.int .i64 (y.d : Int), .int .i64 (y.a : Int), textV y.x])]
  simpa [waitV] using hj
section
variable {B : Nat} {w w' : World} {g : Nat} {s : RS} {vL vG vW : Value} {H C : Nat → Nat}
/-- another row of what waits, made of the old one -/
theorem TK.pushW (h : TK B w g s vL vG vW H C) (hg : w.grownBy w' vW.ownBlock) {vW' : Value} {n' : Nat} {W' : Nat → Wt} (hw : w'.ownsRow B 92 3 vW' n' (waitL W' n')) :
    TK B (w'.setCell ⟨g, 2, none⟩ vW') g { s with nw := n', W := W' } vL vG vW' H C ∧ KeepR B w (w'.setCell ⟨g, 2, none⟩ vW') ∧ w'.cell? ⟨g, 2, none⟩ = some vW ∧ w'.frozen? ⟨g, 2, none⟩ = false := by
  have hlt : ∀ {k : Nat} {o : Obj}, w.heap[k]? = some o → k < w.heap.size := fun e => (Array.getElem?_eq_some_iff.1 e).1
  have hbg : Blk w' g 74 (cells s vL vG vW) := (hg.block g h.blk.lt (fun e => own_not_blk h.waits h.blk rfl e.symm)).trans h.blk
  have ok : ∀ {n c : Nat} {t : TypeId} {v : Value} {xs : List Value}, (t == 74) = false → (t == 92) = false → w.ownsRow B t c v n xs → (w'.setCell ⟨g, 2, none⟩ vW').ownsRow B t c v n xs := fun he he2 h1 => own_keep (own_keep (w' := w') h1 fun g1 hg1 => hg.block g1 (own_lt h1 hg1).1 (fun e => own_type h1 h.waits he2 hg1 e.symm)) fun g1 hg1 => Below.heap_setCell w' ⟨g, 2, none⟩ vW' g1 (fun e => own_not_blk h1 h.blk he (by rw [hg1]; exact congrArg some e))
  have hw2 : (w'.setCell ⟨g, 2, none⟩ vW').ownsRow B 92 3 vW' n' (waitL W' n') := own_keep hw fun g1 hg1 => Below.heap_setCell w' ⟨g, 2, none⟩ vW' g1 (fun e => own_not_blk hw hbg rfl (by rw [hg1]; exact congrArg some e))
  have k1 : KeepR B w w' := (KeepR.refl B w).row h.waits rfl h.le hg
  refine ⟨⟨hbg.set_ 2 vW', h.hg, ok rfl rfl h.heads, fun d hd => ok rfl rfl (h.rows d hd), h.apart, ok rfl rfl h.lost, hw2⟩, ?_, hbg.cell 2, hbg.frozen 2⟩
  exact k1.of_grown (grown_set w' g 2 vW') h.hg (Nat.le_trans h.le hg.size) fun o ho => by
    unfold Blk at hbg
    rw [hbg] at ho
    injection ho with ho
    subst ho
    rfl
theorem waitL_push (W : Nat → Wt) (n : Nat) (y : Wt) : waitL W n ++ waitV y = waitL (fun i => if i = n then y else W i) (n + 1) := by
  show _ = waitL (fun i => if i = n then y else W i) n ++ waitV (if n = n then y else W n)
  rw [if_pos rfl, waitL_congr (W := W) (V := fun i => if i = n then y else W i) fun i hi => (if_neg (by omega)).symm]
theorem write_size_k (w : World) (g : Nat) (s : RS) (D E : Int) (S : ByteArray) (hn : S.size ≠ 128) (h : TK B w g s vL vG vW H C) :
    Calls Tryz.prog 22 #[.pointer (some ⟨g, 0, none⟩), .int .i64 D, .int .i64 E, .string S] w fun e w' => e = .returned (.int .i64 1) ∧ w' = w := by
  have HI := Lib.hid (in_k w g s D E h)
  have t2 : ((S.size : Int) != 128) = true := by simp; omega
  clear h
  cases hp : s.isP D E with
  | true =>
    rw [hp] at HI
    clear hp
    go_enter Tryz.func22, Tryz.ntmps22
    go_wp2_with fail
    refine HI.out.mono ?_
    rintro e w' ⟨rfl, rfl⟩
    go_wp2_with fail
    go_ret
    exact ⟨rfl, rfl⟩
  | false =>
    rw [hp] at HI
    clear hp
    go_enter Tryz.func22, Tryz.ntmps22
    go_wp2_with fail
    refine HI.out.mono ?_
    rintro e w' ⟨rfl, rfl⟩
    go_wp2_with fail
    go_ret
    exact ⟨rfl, rfl⟩
theorem write_why_k (w : World) (g : Nat) (s : RS) (D E : Int) (S : ByteArray) (hn : S.size = 128) (hw : s.why D E ≠ 0) (h : TK B w g s vL vG vW H C) :
    Calls Tryz.prog 22 #[.pointer (some ⟨g, 0, none⟩), .int .i64 D, .int .i64 E, .string S] w fun e w' => e = .returned (.int .i64 (s.why D E)) ∧ w' = w := by
  have HI := Lib.hid (in_k w g s D E h)
  have t2 : ((S.size : Int) != 128) = false := by simp; omega
  cases hp : s.isP D E with
  | true =>
    rw [hp] at HI
    obtain ⟨d, rfl, hd⟩ : ∃ d : Nat, D = (d : Int) ∧ d < s.nd := by
      simp [RS.isP, RS.isD] at hp
      exact ⟨D.toNat, by omega, by omega⟩
    have hg : s.gone d = true := by
      unfold RS.why at hw
      rw [hp, if_pos rfl, Int.toNat_natCast] at hw
      cases e : s.gone d with
      | true => rfl
      | false => rw [e] at hw; simp at hw
    have hy : s.why (d : Int) E = 3 := by
      unfold RS.why
      rw [hp, if_pos rfl, Int.toNat_natCast, hg]
      rfl
    rw [hy]
    have c1 := h.c1
    obtain ⟨l, c, rfl, k1, _⟩ := h.gone hd
    rw [hg] at k1
    have i0 : (0 : Int) ≤ (d : Int) := by omega
    have i1 : (d : Int) < (s.nd : Int) := by omega
    clear h hw hp hg hy hd
    go_enter Tryz.func22, Tryz.ntmps22
    go_wp2_with fail
    refine HI.out.mono ?_
    rintro e w' ⟨rfl, rfl⟩
    go_wp2_with fail
    go_ret
    exact ⟨rfl, rfl⟩
  | false =>
    rw [hp] at HI
    have hy : s.why D E = 1 := by
      unfold RS.why
      rw [hp]
      rfl
    rw [hy]
    clear hp h hw hy
    go_enter Tryz.func22, Tryz.ntmps22
    go_wp2_with fail
    refine HI.out.mono ?_
    rintro e w' ⟨rfl, rfl⟩
    go_wp2_with fail
    go_ret
    exact ⟨rfl, rfl⟩
end
end refRack
end Go.Proofs.YthioanenljpclaaGreatDoor
namespace Go.Proofs.YthioanenljpclaaGreatDoor
open Go Go.RowKit
set_option maxRecDepth 100000
set_option linter.unusedVariables false
namespace refRack
theorem own_shape {w : World} {B n c : Nat} {e : TypeId} {v : Value} {xs : List Value} (h : w.ownsRow B e c v n xs) : ∃ A c', v = .slice A n c' := by
  rcases h.2 with ⟨e1, e2⟩ | ⟨l, cap, cur, e, _⟩
  · exact ⟨none, 0, by rw [e1, e2]⟩
  · exact ⟨_, cap, e⟩
theorem strB_dataR (n : Nat) (X : Nat → Nat) : (strB n X).data.toList = (List.range n).map fun j => UInt8.ofNat (X j) := by rw [← strB_list, ByteArray.toList_eq]
theorem strB_sizeR (n : Nat) (X : Nat → Nat) : (strB n X).size = n := by
  have h := congrArg List.length (strB_dataR n X)
  rw [List.length_map, List.length_range, Array.length_toList] at h
  exact h
section
variable {B : Nat} {w w' : World} {g : Nat} {s : RS} {vL vG vW : Value} {H C : Nat → Nat}
theorem TK.cost (h : TK B w g s vL vG vW H C) (c : Nat) : TK B w g { s with cost := c } vL vG vW H C := ⟨h.blk, h.hg, h.heads, h.rows, h.apart, h.lost, h.waits⟩
set_option maxHeartbeats 1600000 in
theorem write_go_k (w : World) (g : Nat) (s : RS) (d a : Nat) (X : Nat → Nat) (hl : s.left ≤ 9223372036854775807) (hd : d < s.nd) (ha : a < s.ns) (hg : s.gone d = false) (hn : s.nw + 1 ≤ 2000000) (h : TK B w g s vL vG vW H C) :
    Calls Tryz.prog 22 #[.pointer (some ⟨g, 0, none⟩), .int .i64 (d : Int), .int .i64 (a : Int), .string (strB 128 X)] w fun e w' => e = .returned (.int .i64 (if s.pow then 0 else 16)) ∧ TAt B w' g (if s.pow then s.spent.wrote d a X else s.spent) ∧ KeepR B w w' := by
  have HI := Lib.hid (in_k w g s (d : Int) (a : Int) h)
  rw [show s.isP (d : Int) (a : Int) = true by simp [RS.isP, RS.isD]; omega] at HI
  have t2 : (((strB 128 X).size : Int) != 128) = false := by rw [strB_sizeR]; rfl
  have HS := Lib.hid (spend_k w g s hl h)
  have c1 := h.c1
  obtain ⟨l, c, rfl, k1, _⟩ := h.gone hd
  rw [hg] at k1
  have i0 : (0 : Int) ≤ (d : Int) := by omega
  have i1 : (d : Int) < (s.nd : Int) := by omega
  obtain ⟨q1, q2, q3, q4, q5, q6, q7⟩ := spent_same s
  have HN : Hid (s.spent.nw + 1 ≤ 2000000) := Lib.hid (by rw [q3]; exact hn)
  clear h hg hl q1 q2 q3 q4 q5 q6 q7 hn
  generalize hsz : (strB 128 X).size = z at t2
  generalize s.spent = s1 at *
  obtain ⟨T, hT⟩ : ∃ T, T = strB 128 X := ⟨_, rfl⟩
  rw [← hT] at hsz ⊢
  have HTX := Lib.hid hT
  clear hT
  cases hpow : s.pow with
  | false =>
    rw [hpow] at HS
    clear hpow
    go_enter Tryz.func22, Tryz.ntmps22
    go_wp2_with fail
    refine HI.out.mono ?_
    rintro e w1 ⟨rfl, rfl⟩
    go_wp2_with fail
    refine HS.out.mono ?_
    rintro e w2 ⟨rfl, h2, k2⟩
    have H2 := Lib.hid h2
    have K2 := Lib.hid k2
    clear h2 k2 HS HI
    go_wp2_with fail
    go_ret
    exact ⟨rfl, ⟨_, _, _, _, _, H2.out⟩, K2.out⟩
  | true =>
    rw [hpow] at HS
    clear hpow
    go_enter Tryz.func22, Tryz.ntmps22
    go_wp2_with fail
    refine HI.out.mono ?_
    rintro e w1 ⟨rfl, rfl⟩
    go_wp2_with fail
    refine HS.out.mono ?_
    rintro e w2 ⟨rfl, h2, k2⟩
    have bA : Below w2.heap.size w2 (w2.alloc (.cells #[.int .i64 (d : Int), .int .i64 (a : Int), .string T] 92)) := (Below.refl _ _).alloc (Nat.le_refl _) _
    have hA := h2.below bA
    have HA := Lib.hid hA
    have KA := Lib.hid (k2.new bA h2.le)
    have c2 := h2.c2
    have cA := hA.c2
    have hnews := wait_new w2 ⟨d, a, X⟩
    have HW : Hid (∀ j u, (waitV ⟨d, a, X⟩)[j]? = some u → (w2.alloc (.cells #[.int .i64 (d : Int), .int .i64 (a : Int), .string T] 92)).cell? ((⟨w2.heap.size, 0, none⟩ : Addr).add j) = some u) := Lib.hid (by rw [HTX.out]; exact hnews)
    have HB : Hid (B ≤ (w2.alloc (.cells #[.int .i64 (d : Int), .int .i64 (a : Int), .string T] 92)).heap.size) := Lib.hid hA.le
    have hbd : ∀ W, (Instr.build 92 #[(0, .int .i64 (d : Int)), (1, .int .i64 (a : Int)), (2, .string T)]).run Tryz.prog W = .ok (.agg #[.int .i64 (d : Int), .int .i64 (a : Int), .string T]) W := fun W => by kernel_rfl
    clear h2 k2 HS HI bA hA hnews
    go_wp2_with ((with_reducible refine wpList_append_waitR (y := ⟨d, a, X⟩) rfl (.tmp 33) (.tmp 38) rfl rfl rfl HA.out.waits HW.out HN.out HB.out ?_); intro v' w3 hw3 hg3; refine of_hid ?_)
    refine Lib.hid ?_
    rw [waitL_push] at hw3
    obtain ⟨A3, c3, rfl⟩ := own_shape hw3
    obtain ⟨hp1, hp2, hp3, hp4⟩ := HA.out.pushW hg3 hw3
    have H4 := Lib.hid (hp1.cost (s1.cost + 1))
    have K4 := Lib.hid (KA.out.trans hp2)
    clear hp1 hp2 hw3 hg3 HA KA HW HB hbd c2 cA
    go_wp2_with fail
    go_ret
    exact ⟨rfl, ⟨_, _, _, _, _, H4.out⟩, K4.out⟩
/-- behind the loss of what waits for drive d -/
def forgot (s : RS) (d : Nat) : RS := { s with nw := (keptL s.W d s.nw).length, W := fun i => (keptL s.W d s.nw).getD i ⟨0, 0, zeros⟩ }
def waitLL (l : List Wt) : List Value := l.flatMap waitV
theorem waitLL_snoc (l : List Wt) (y : Wt) : waitLL (l ++ [y]) = waitLL l ++ waitV y := by simp [waitLL]
theorem waitL_take (l : List Wt) (z : Wt) : ∀ k, k ≤ l.length → waitL (fun i => l.getD i z) k = waitLL (l.take k)
  | 0, _ => by rw [List.take_zero]; rfl
  | k + 1, h => by
    have hk : k < l.length := by omega
    have e : l.getD k z = l[k] := by simp [List.getD_eq_getElem?_getD, hk]
    show waitL (fun i => l.getD i z) k ++ waitV (l.getD k z) = _
    rw [waitL_take l z k (by omega), e, List.take_succ_eq_append_getElem hk, waitLL_snoc]
theorem waitL_list (l : List Wt) (z : Wt) : waitL (fun i => l.getD i z) l.length = waitLL l := by rw [waitL_take l z l.length (Nat.le_refl _), List.take_length]
set_option maxHeartbeats 1600000 in
theorem forget_k (w : World) (g : Nat) (s : RS) (d : Nat) (hn : s.nw ≤ 1000000) (h : TK B w g s vL vG vW H C) :
    Calls Tryz.prog 43 #[.pointer (some ⟨g, 0, none⟩), .int .i64 (d : Int)] w fun e w' => e = .returned (.tuple #[]) ∧ (∃ vW', TK B w' g (forgot s d) vL vG vW' H C) ∧ KeepR B w w' := by
  have HK := Lib.hid h
  have c2 := h.c2
  obtain ⟨A, c, rfl, _⟩ := h.shapeW
  have hle := h.le
  clear h
  obtain ⟨m, hmn⟩ : ∃ m, m = s.nw := ⟨_, rfl⟩
  rw [← hmn] at hn c2
  have HM := Lib.hid hmn
  have hz := hmn
  clear hmn hz
  have c2w := Lib.hid c2
  have N0 : Hid (w.ownsRow w.heap.size 92 3 (.slice none 0 0) (keptL s.W d 0).length (waitLL (keptL s.W d 0))) := Lib.hid ⟨rfl, .inl ⟨rfl, rfl⟩⟩
  have L0 := Lib.hid (Below.refl w.heap.size w)
  clear c2
  go_enter Tryz.func43, Tryz.ntmps43
  go_wp2_with fail
  go_loopw [4, 5] (fun o x wr => ∃ i : Nat, i ≤ m ∧ x = .int .i64 i ∧ Hid (wr.ownsRow w.heap.size 92 3 o (keptL s.W d i).length (waitLL (keptL s.W d i))) ∧ Hid (Below w.heap.size w wr)) (fun _ x _ => m - (intOf x).toNat)
  case atStart => exact ⟨0, by omega, rfl, N0, L0⟩
  case round =>
    obtain ⟨i, hi, rfl, N1, L1⟩ := hrel
    clear N0 L0
    have H1 := Lib.hid (HK.out.below L1.out)
    have c2 := H1.out.c2
    rw [← HM.out] at c2
    by_cases hlt : i < m
    · have i1 : (i : Int) < (m : Int) := by omega
      have i0 : (0 : Int) ≤ (i : Int) := by omega
      obtain ⟨l, c', e, k0, k1, k2⟩ := H1.out.wait (i := i) (by rw [← HM.out]; exact hlt)
      injection e with e _ e2
      subst e
      obtain ⟨wd, hwd⟩ : ∃ wd, wd = (s.W i).d := ⟨_, rfl⟩
      rw [← hwd] at k0
      by_cases hd : wd = d
      · have t1 : ((wd : Int) != (d : Int)) = false := by simp; omega
        have N2 : Hid (wr.ownsRow w.heap.size 92 3 u4 (keptL s.W d (i + 1)).length (waitLL (keptL s.W d (i + 1)))) := Lib.hid (by
          rw [show keptL s.W d (i + 1) = keptL s.W d i from if_pos (hwd.symm.trans hd)]
          exact N1.out)
        clear hwd hd e2 H1 N1
        go_wp2_with fail
        go_roundw
        case rel => exact ⟨i + 1, by omega, by go_num, N2, L1⟩
        case measure => simp [intOf]; omega
      · have t1 : ((wd : Int) != (d : Int)) = true := by simp; omega
        have hkl : keptL s.W d (i + 1) = keptL s.W d i ++ [s.W i] := if_neg (fun q => hd (hwd.trans q))
        have HKL := Lib.hid hkl
        have hlen := keptL_le s.W d i
        obtain ⟨y, hy⟩ : ∃ y, y = s.W i := ⟨_, rfl⟩
        rw [hwd, ← hy] at k0
        rw [hwd, ← hy] at t1
        rw [← hy] at k1 k2
        have HY := Lib.hid hy
        have bA : Below wr.heap.size wr (wr.alloc (.cells #[.int .i64 (y.d : Int), .int .i64 (y.a : Int), textV y.x] 92)) := (Below.refl _ _).alloc (Nat.le_refl _) _
        have NA := Lib.hid (own_keep N1.out (w' := wr.alloc (.cells #[.int .i64 (y.d : Int), .int .i64 (y.a : Int), textV y.x] 92)) fun g1 hg1 => bA.block g1 (own_lt N1.out hg1).1)
        have LA := Lib.hid (L1.out.trans (bA.mono L1.out.size))
        have HW := Lib.hid (wait_new wr y)
        have HB : Hid (w.heap.size ≤ (wr.alloc (.cells #[.int .i64 (y.d : Int), .int .i64 (y.a : Int), textV y.x] 92)).heap.size) := Lib.hid LA.out.size
        have HN : Hid ((keptL s.W d i).length + 1 ≤ 2000000) := Lib.hid (by omega)
        clear hwd hd hy e2 hkl H1 N1 L1 bA hlen
        go_wp2_with ((with_reducible refine wpList_append_waitR (y := y) rfl (.tmp 25) (.tmp 33) rfl rfl rfl NA.out HW.out HN.out HB.out ?_); intro v' w3 hw3 hg3; refine of_hid ?_)
        refine Lib.hid ?_
        have N2 : Hid (w3.ownsRow w.heap.size 92 3 v' (keptL s.W d (i + 1)).length (waitLL (keptL s.W d (i + 1)))) := Lib.hid (by
          rw [HKL.out, waitLL_snoc, List.length_append, ← HY.out]
          exact hw3)
        have L2 : Hid (Below w.heap.size w w3) := Lib.hid (LA.out.trans ⟨hg3.os, hg3.tape, hg3.output, hg3.size, fun k hk => hg3.block k (by have := HB.out; omega) (fun e => by have := (own_lt NA.out e.symm).2; omega)⟩)
        obtain ⟨A3, c3, rfl⟩ := own_shape hw3
        clear hw3 hg3 NA LA HW HB HN k0 k1 k2 c2 t1
        go_wp2_with fail
        go_roundw
        case rel => exact ⟨i + 1, by omega, by go_num, N2, L2⟩
        case measure => simp [intOf]; omega
    · obtain rfl : m = i := by omega
      have f2 := H1.out.frozen 2
      obtain ⟨A3, c3, e3⟩ := own_shape N1.out
      have hrow : wr.ownsRow B 92 3 u4 (keptL s.W d m).length (waitL (fun i => (keptL s.W d m).getD i ⟨0, 0, zeros⟩) (keptL s.W d m).length) := by
        rw [waitL_list]
        exact own_base N1.out hle
      have hset : (wr.setCell ⟨g, 2, none⟩ u4).ownsRow B 92 3 u4 (keptL s.W d m).length (waitL (fun i => (keptL s.W d m).getD i ⟨0, 0, zeros⟩) (keptL s.W d m).length) := own_keep hrow fun g1 hg1 => Below.heap_setCell wr ⟨g, 2, none⟩ u4 g1 (fun e => own_not_blk hrow H1.out.blk rfl (by rw [hg1]; exact congrArg some e))
      have hT := H1.out.setW hset
      have K3 := Lib.hid (((KeepR.refl B w).new L1.out hle).put H1.out 2 u4)
      rw [HM.out] at hT
      have HT : Hid (TK B (wr.setCell ⟨g, 2, none⟩ u4) g (forgot s d) vL vG u4 H C) := Lib.hid hT
      subst e3
      clear hlt hi hrow hset hT N1 H1 L1
      go_wp2_with fail
      go_end0
      exact ⟨rfl, ⟨_, HT.out⟩, K3.out⟩
end
end refRack
end Go.Proofs.YthioanenljpclaaGreatDoor
