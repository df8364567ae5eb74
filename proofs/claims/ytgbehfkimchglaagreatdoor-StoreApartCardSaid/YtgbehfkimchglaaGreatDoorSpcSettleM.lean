/-
 'New' of a space with no used ranges, and 'Used', 'Ranges', by contracts.
-/
import Derived.Test.YtgbehfkimchglaaGreatDoorSpcBlankM
namespace Go.Proofs.YtgbehfkimchglaaGreatDoor
open Go Go.RowKit
set_option maxRecDepth 100000
set_option linter.unusedVariables false
namespace Sp
set_option maxHeartbeats 1600000 in
theorem new_nil (w : World) (C : Nat) (h1 : 1 ≤ C) (h2 : C ≤ 40000) :
  Calls Tryz.prog 58 #[.int .i64 (C : Int), .slice none 0 0] w fun er w' => ∃ b m F V, er = .returned (.tuple #[.pointer (some ⟨b, 0, none⟩), .int .i64 0]) ∧ Spc w' w.heap.size b m 1 F V (allFree C) ∧ Below w.heap.size w w' := by
 have HB := Lib.hid (blank_yes w C h1 h2)
 clear h1 h2
 go_enter Tryz.func58, Tryz.ntmps58
 go_wp2_with fail
 refine HB.out.mono ?_
 rintro e w2 ⟨b, m, F, V, rfl, hsp⟩
 have HSP := Lib.hid hsp
 clear hsp
 go_wp2_with fail
 go_loopw [22] (fun y wr => y = .int .i64 0 ∧ wr = w2) (fun _ _ => 0)
 case atStart => exact ⟨rfl, rfl⟩
 case round =>
  obtain ⟨rfl, hw⟩ := hrel
  rw [hw]
  clear hw
  go_wp2_with fail
  go_loopw [45] (fun y wr => y = .int .i64 0 ∧ wr = w2) (fun _ _ => 0)
  case atStart => exact ⟨rfl, rfl⟩
  case round =>
   obtain ⟨rfl, hw⟩ := hrel
   rw [hw]
   clear hw
   go_wp2_with fail
   go_ret2
   exact ⟨b, m, F, V, rfl, HSP.out⟩
set_option maxHeartbeats 1600000 in
theorem used_rg {w : World} {base b m n : Nat} {F : Nat → Option Value} {V : Nat → Value} {s : SS} (h : Spc w base b m n F V s) (hbs : base ≤ w.heap.size) :
  Calls Tryz.prog 54 #[.pointer (some ⟨b, 0, none⟩)] w fun er w' => ∃ v', er = .returned v' ∧ Own w' w.heap.size v' (s.S 1) ∧ Below w.heap.size w w' := by
 have HL := Lib.hid (list_rg h hbs (k := 1) (by omega))
 clear h hbs
 go_enter Tryz.func54, Tryz.ntmps54
 go_wp2_with fail
 refine HL.out.mono ?_
 rintro e w2 ⟨v', rfl, ho⟩
 have O := Lib.hid ho
 clear ho
 go_wp2_with fail
 go_ret
 exact ⟨_, rfl, O.out⟩
end Sp
end Go.Proofs.YtgbehfkimchglaaGreatDoor
namespace Go.Proofs.YtgbehfkimchglaaGreatDoor
open Go Go.RowKit
set_option maxRecDepth 100000
set_option linter.unusedVariables false
namespace Sp
def dn (F : Nat → Option Value) (left : Lit → Bool) (k : Nat) : Bool := (F k).isSome && !left (ilit k)
def dcnt (F : Nat → Option Value) (left : Lit → Bool) : Nat := (if dn F left 0 then 1 else 0) + (if dn F left 1 then 1 else 0) + (if dn F left 2 then 1 else 0)
structure DupRel (wr : World) (B m2 : Nat) (F : Nat → Option Value) (s : SS) (left : Lit → Bool) (G : Nat → Option Value) (V2 : Nat → Value) : Prop where
 map : MapI wr m2 (dcnt F left) G
 g : ∀ k, k < 3 → G k = if dn F left k then some (.agg #[V2 k, .int .i64 (cnt (s.S k) : Int)]) else none
 own : ∀ k, k < 3 → dn F left k = true → Own wr B (V2 k) (s.S k)
 nil : ∀ k, k < 3 → dn F left k = false → V2 k = .slice none 0 0
 apart : ∀ k j, k < 3 → j < 3 → k ≠ j → ∀ g, (V2 k).ownBlock = some g → (V2 j).ownBlock ≠ some g
section
variable {wr w1 w2 : World} {B m2 : Nat} {F : Nat → Option Value} {s : SS} {left : Lit → Bool} {G : Nat → Option Value} {V2 : Nat → Value}
end
end Sp
end Go.Proofs.YtgbehfkimchglaaGreatDoor
namespace Go.Proofs.YtgbehfkimchglaaGreatDoor
open Go Go.RowKit
set_option maxRecDepth 100000
set_option linter.unusedVariables false
namespace Sp
open Go.WideElems (Fit rd rg rd_key rg_of) in
theorem MapI.three {w : World} {b n : Nat} {F : Nat → Option Value} (h : MapI w b n F) : MapI w b 3 F := by
 obtain ⟨D, ⟨es, clock, hb, FT, hs, hD⟩, h2, h3, h4⟩ := h
 refine ⟨D, ⟨es, clock, hb, FT, ?_, hD⟩, h2, h3, h4⟩
 have hkey : ∀ x ∈ es.toList, ∃ k, k < 3 ∧ x.key = ikey k := fun x hx => by
  obtain ⟨y, hy⟩ := FT.reads x hx
  have hk := rd_key hy
  have hm : (rg Tryz.prog 151 RVi x) ∈ (es.toList.map (rg Tryz.prog 151 RVi)).foldr DataW.insert [] := mem_sorted.2 (List.mem_map_of_mem hx)
  rw [rg_of hy] at hm
  have hh : Maps.has D y.1 = true := by
   rw [hD, Maps.has_eq, List.any_eq_true]
   exact ⟨y, hm, WideAt.sameKey_self (keyedI.key hk)⟩
  obtain ⟨k, hk3, e⟩ := h4 _ hh
  rw [e] at hk
  obtain ⟨z, e1, e2, _⟩ := Maps.keyOf_int_inv Tryz.underlying151 hk
  refine ⟨k, hk3, ?_⟩
  rw [e1]
  unfold ilit at e2
  injection e2 with _ e2
  rw [← e2]
  rfl
 have hnd : (es.toList.map (·.key)).Nodup := FT.stamped.2.2
 rw [← Array.length_toList]
 generalize es.toList = l at hkey hnd
 match l, hkey, hnd with
 | [], _, _ => simp
 | [_], _, _ => simp
 | [_, _], _, _ => simp
 | [_, _, _], _, _ => simp
 | x1 :: x2 :: x3 :: x4 :: r, hkey, hnd =>
  obtain ⟨k1, a1, e1⟩ := hkey x1 (by simp)
  obtain ⟨k2, a2, e2⟩ := hkey x2 (by simp)
  obtain ⟨k3, a3, e3⟩ := hkey x3 (by simp)
  obtain ⟨k4, a4, e4⟩ := hkey x4 (by simp)
  simp only [List.map_cons, List.nodup_cons, List.mem_cons, not_or, e1, e2, e3, e4] at hnd
  have n12 : k1 ≠ k2 := fun e => hnd.1.1 (by rw [e])
  have n13 : k1 ≠ k3 := fun e => hnd.1.2.1 (by rw [e])
  have n14 : k1 ≠ k4 := fun e => hnd.1.2.2.1 (by rw [e])
  have n23 : k2 ≠ k3 := fun e => hnd.2.1.1 (by rw [e])
  have n24 : k2 ≠ k4 := fun e => hnd.2.1.2.1 (by rw [e])
  have n34 : k3 ≠ k4 := fun e => hnd.2.2.1.1 (by rw [e])
  omega
theorem Spc.three {w : World} {base b m n : Nat} {F : Nat → Option Value} {V : Nat → Value} {s : SS} (h : Spc w base b m n F V s) : Spc w base b m 3 F V s :=
 ⟨⟨h.mem.blk, h.mem.map.three, h.mem.val, h.mem.own, h.mem.apart, h.mem.lo⟩, h.good⟩
end Sp
end Go.Proofs.YtgbehfkimchglaaGreatDoor
namespace Go.Proofs.YtgbehfkimchglaaGreatDoor
open Go Go.RowKit
set_option maxRecDepth 100000
set_option linter.unusedVariables false
namespace Sp
end Sp
end Go.Proofs.YtgbehfkimchglaaGreatDoor
namespace Go.Proofs.YtgbehfkimchglaaGreatDoor
open Go Go.RowKit
set_option maxRecDepth 100000
set_option linter.unusedVariables false
namespace Sp
def addL (l0 m : List Rg) : List Rg := m.foldl (fun acc r => withL r.1 r.2 acc) l0
theorem addL_cons (l0 : List Rg) (r : Rg) (m : List Rg) : addL l0 (r :: m) = addL (withL r.1 r.2 l0) m := rfl
theorem addL_snoc (l0 m : List Rg) (r : Rg) : addL l0 (m ++ [r]) = withL r.1 r.2 (addL l0 m) := by
 unfold addL
 rw [List.foldl_append]
 rfl
theorem addL_ok {lo : Nat} : ∀ (m l0 : List Rg), Ris 0 l0 → Ris lo m → (∀ c, mem m c → ¬ mem l0 c) → Ris 0 (addL l0 m) ∧ (∀ c, mem (addL l0 m) c ↔ mem l0 c ∨ mem m c) ∧ cnt (addL l0 m) = cnt l0 + cnt m
 | [], l0, h0, _, _ => ⟨h0, fun c => ⟨.inl, fun h => h.elim id (fun h => absurd h (mem_nil c))⟩, rfl⟩
 | r :: m, l0, h0, hm, hd => by
  have hw := Ris.with_ hm.2.1 h0 (Nat.zero_le _) (fun c h1 h2 => hd c ((mem_cons r m c).2 (.inl ⟨h1, h2⟩)))
  obtain ⟨g1, g2, g3⟩ := addL_ok m (withL r.1 r.2 l0) hw.1 hm.2.2 (fun c hc hx => by
   rcases (hw.2.1 c).1 hx with h1 | h1
   ·exact hd c ((mem_cons r m c).2 (.inr hc)) h1
   ·have := hm.2.2.ge hc; omega)
  rw [addL_cons]
  refine ⟨g1, fun c => ?_, ?_⟩
  ·rw [g2, hw.2.1, mem_cons]
   constructor
   ·rintro ((h1 | h1) | h1)
    ·exact .inl h1
    ·exact .inr (.inl h1)
    ·exact .inr (.inr h1)
   ·rintro (h1 | h1 | h1)
    ·exact .inl (.inl h1)
    ·exact .inl (.inr h1)
    ·exact .inr h1
  ·rw [g3, hw.2.2]
   show _ = _ + ((r.2 - r.1) + cnt m)
   omega
theorem Ris.take_ {lo : Nat} : ∀ {l : List Rg}, Ris lo l → ∀ i, Ris lo (l.take i)
 | [], _, i => by simp [Ris]
 | q :: l, h, 0 => by simp [Ris]
 | q :: l, h, i + 1 => ⟨h.1, h.2.1, h.2.2.take_ i⟩
theorem mem_take {l : List Rg} {i c : Nat} (h : mem (l.take i) c) : mem l c := by
 obtain ⟨r, hr, h⟩ := h
 exact ⟨r, List.mem_of_mem_take hr, h⟩
theorem Ris.take_lt {lo : Nat} : ∀ {l : List Rg}, Ris lo l → ∀ {i c : Nat} {r : Rg}, l[i]? = some r → mem (l.take i) c → c < r.1
 | [], _, i, c, r, h, _ => by simp at h
 | q :: l, h, 0, c, r, _, hm => by simp at hm; exact absurd hm (mem_nil c)
 | q :: l, h, i + 1, c, r, hr, hm => by
  rw [List.getElem?_cons_succ] at hr
  have hge : q.2 + 1 ≤ r.1 := by
   have h1 : mem l r.1 := ⟨r, List.mem_of_getElem? hr, Nat.le_refl _, (h.2.2.lt_ r (List.mem_of_getElem? hr))⟩
   exact h.2.2.ge h1
  rw [List.take_succ_cons] at hm
  rcases (mem_cons q _ c).1 hm with h1 | h1
  ·omega
  ·exact h.2.2.take_lt hr h1
theorem addL_next {lo : Nat} {l0 l : List Rg} (h0 : Ris 0 l0) (hl : Ris lo l) (hd : ∀ c, mem l c → ¬ mem l0 c) {i : Nat} {r : Rg} (hr : l[i]? = some r) :
  Ris 0 (addL l0 (l.take i)) ∧ (∀ c, mem (addL l0 (l.take i)) c → mem l0 c ∨ mem l c) ∧ (∀ c, r.1 ≤ c → c < r.2 → ¬ mem (addL l0 (l.take i)) c) ∧ addL l0 (l.take (i + 1)) = withL r.1 r.2 (addL l0 (l.take i)) ∧ cnt (withL r.1 r.2 (addL l0 (l.take i))) = cnt (addL l0 (l.take i)) + (r.2 - r.1) := by
 obtain ⟨g1, g2, g3⟩ := addL_ok (l.take i) l0 h0 (hl.take_ i) (fun c hc => hd c (mem_take hc))
 have hrm : r.1 < r.2 := hl.lt_ r (List.mem_of_getElem? hr)
 have hno : ∀ c, r.1 ≤ c → c < r.2 → ¬ mem (addL l0 (l.take i)) c := fun c h1 h2 hx => by
  rcases (g2 c).1 hx with h3 | h3
  ·exact hd c ⟨r, List.mem_of_getElem? hr, h1, h2⟩ h3
  ·have := hl.take_lt hr h3; omega
 refine ⟨g1, fun c hc => ((g2 c).1 hc).imp id mem_take, hno, ?_, (Ris.with_ hrm g1 (Nat.zero_le _) hno).2.2⟩
 obtain ⟨hi, he⟩ := List.getElem?_eq_some_iff.1 hr
 rw [List.take_succ_eq_append_getElem hi, addL_snoc, he]
def SS.settled (s : SS) : SS := (s.upd 2 []).upd 0 (addL (s.S 0) (s.S 2))
theorem settled_S (s : SS) (k : Nat) : s.settled.S k = if k = 0 then addL (s.S 0) (s.S 2) else if k = 2 then [] else s.S k := rfl
theorem Good.settled_all {s : SS} (h : Good s) : (∀ k, k < 3 → ∀ c, mem (s.settled.S k) c ↔ if k = 0 then mem (s.S 0) c ∨ mem (s.S 2) c else if k = 2 then False else mem (s.S k) c) ∧ cnt (s.settled.S 0) = cnt (s.S 0) + cnt (s.S 2) ∧ Ris 0 (s.settled.S 0) := by
 obtain ⟨g1, g2, g3⟩ := addL_ok (s.S 2) (s.S 0) (h.ris 0 (by omega)) (h.ris 2 (by omega)) (fun c h1 h2 => absurd (h.one 2 0 c (by omega) (by omega) h1 h2) (by omega))
 refine ⟨fun k hk c => ?_, by rw [settled_S, if_pos rfl]; exact g3, by rw [settled_S, if_pos rfl]; exact g1⟩
 rw [settled_S]
 by_cases e0 : k = 0
 ·rw [if_pos e0, if_pos e0]; exact g2 c
 ·rw [if_neg e0, if_neg e0]
  by_cases e2 : k = 2
  ·rw [if_pos e2, if_pos e2]; exact ⟨fun hx => mem_nil c hx, False.elim⟩
  ·rw [if_neg e2, if_neg e2]
theorem Good.settled {s : SS} (h : Good s) : Good s.settled := by
 obtain ⟨hM, _, hR⟩ := h.settled_all
 refine ⟨h.hc, fun k hk => ?_, fun k hk c hc => ?_, fun k j c hk hj h1 h2 => ?_, fun c hc => ?_, h.kp⟩
 ·by_cases e0 : k = 0
  ·rw [e0]; exact hR
  ·rw [settled_S, if_neg e0]
   by_cases e2 : k = 2
   ·rw [if_pos e2]; trivial
   ·rw [if_neg e2]; exact h.ris k hk
 ·have h1 := (hM k hk c).1 hc
  by_cases e0 : k = 0
  ·rw [if_pos e0] at h1
   exact h1.elim (h.in_ 0 (by omega) c) (h.in_ 2 (by omega) c)
  ·rw [if_neg e0] at h1
   by_cases e2 : k = 2
   ·rw [if_pos e2] at h1; exact h1.elim
   ·rw [if_neg e2] at h1; exact h.in_ k hk c h1
 ·have h3 := (hM k hk c).1 h1
  have h4 := (hM j hj c).1 h2
  have k02 : k = 0 ∨ k = 1 := by
   by_cases e2 : k = 2
   ·subst e2; simp at h3
   ·omega
  have j02 : j = 0 ∨ j = 1 := by
   by_cases e2 : j = 2
   ·subst e2; simp at h4
   ·omega
  rcases k02 with rfl | rfl <;> rcases j02 with rfl | rfl
  ·rfl
  ·simp at h3 h4
   rcases h3 with h3 | h3
   ·exact h.one 0 1 c (by omega) (by omega) h3 h4
   ·exact absurd (h.one 2 1 c (by omega) (by omega) h3 h4) (by omega)
  ·simp at h3 h4
   rcases h4 with h4 | h4
   ·exact h.one 1 0 c (by omega) (by omega) h3 h4
   ·exact absurd (h.one 2 1 c (by omega) (by omega) h4 h3) (by omega)
  ·rfl
 ·obtain ⟨k, hk, h1⟩ := h.all c hc
  by_cases e2 : k = 2
  ·subst e2
   exact ⟨0, by omega, (hM 0 (by omega) c).2 (by rw [if_pos rfl]; exact .inr h1)⟩
  ·refine ⟨k, hk, (hM k hk c).2 ?_⟩
   by_cases e0 : k = 0
   ·subst e0; rw [if_pos rfl]; exact .inl h1
   ·rw [if_neg e0, if_neg e2]; exact h1
end Sp
end Go.Proofs.YtgbehfkimchglaaGreatDoor
namespace Go.Proofs.YtgbehfkimchglaaGreatDoor
open Go Go.RowKit
set_option maxRecDepth 100000
set_option linter.unusedVariables false
namespace Sp
theorem wpList_delete_I (w : World) {ops : Array Oper} {rest : List Oper} {o : Oper} {a : Act} {Q : Exit → Act → World → Prop} {b n : Nat} {F : Nat → Option Value} (hg : o.guard = none) (mo x : Operand)
  (hop : o.op = Op.call { callee := Callee.builtin Builtin.delete, args := #[mo, x], argTypes := #[148, 151] })
  (hm : a.eval mo = .map (some b)) {k : Nat} (hx : a.eval x = .int .i64 (k : Int)) (hk : k < 3) (h : MapI w b n F)
  (hK : ∀ w', MapI w' b n (delI F k) → w.grownBy w' (some b) → wpList Tryz.prog ops Q rest (a.put o.dst (.tuple #[])) w') :
  wpList Tryz.prog ops Q (o :: rest) a w := by
 refine wpList_plain hg fun K' hK' => ?_
 obtain ⟨w', hrun, r1, r2⟩ := h.drop Tryz.underlying148 (show k < 4611686018427387904 by omega) o.type
 unfold Oper.wp
 unfold ikey at hrun
 simp [execOp, hop, resolve, invoke, builtin, hm, hx, hrun, Result.andThen]
 exact hK' _ _ (hK w' r1 r2.grown)
section
variable {w w2 : World} {base b m n : Nat} {F : Nat → Option Value} {V : Nat → Value} {s : SS}
theorem Mem.three (h : Mem w base b m n F V s) : Mem w base b m 3 F V s := ⟨h.blk, h.map.three, h.val, h.own, h.apart, h.lo⟩
theorem Mem.drop {k : Nat} (h : Mem w base b m n F V s) (hk : k < 3) (hm : MapI w2 m n (delI F k)) (hg : w.grownBy w2 (some m)) :
  Mem w2 base b m n (delI F k) (updV V k (.slice none 0 0)) (s.upd k []) ∧ Chg w w2 b m V (updV V k (.slice none 0 0)) := by
 have hbm : b ≠ m := fun e => h.map.ne_blk h.blk e.symm
 have hv : ∀ j, j < 3 → ∀ g, (V j).ownBlock = some g → g ≠ m := fun j hj g hg e => (h.own_ne hj).2 (by rw [hg, e])
 refine ⟨⟨Blk_grown h.blk hg (fun e => by injection e with e; exact hbm e), hm, fun j hj => ?_, fun j hj => ?_, fun i j hi hj hij g hgi hgj => ?_, h.lo⟩, ⟨hg.os, hg.tape, hg.output, hg.size, fun g hlt hgb hgm _ => hg.block g hlt (fun e => by injection e with e; exact hgm e), fun j hj g hgj => ?_⟩⟩
 ·unfold delI updV SS.upd
  by_cases e : j = k
  ·simp only [if_pos e]; rfl
  ·simp only [if_neg e]; exact h.val j hj
 ·unfold updV SS.upd
  by_cases e : j = k
  ·simp only [if_pos e]; exact Own.nil _ _
  ·simp only [if_neg e]; exact (h.own j hj).grown hg (fun g hg' e' => by injection e' with e'; exact hv j hj g hg' e')
 ·unfold updV at hgi hgj
  by_cases e1 : i = k
  ·rw [if_pos e1] at hgi; cases hgi
  ·by_cases e2 : j = k
   ·rw [if_pos e2] at hgj; cases hgj
   ·rw [if_neg e1] at hgi
    rw [if_neg e2] at hgj
    exact h.apart i j hi hj hij g hgi hgj
 ·unfold updV at hgj
  by_cases e : j = k
  ·rw [if_pos e] at hgj; cases hgj
  ·rw [if_neg e] at hgj
   exact .inr ⟨j, hj, hgj⟩
end
def SS.half (s : SS) (i : Nat) : SS := (s.upd 2 []).upd 0 (addL (s.S 0) ((s.S 2).take i))
theorem half_zero (s : SS) : s.half 0 = s.upd 2 [] := by
 unfold SS.half SS.upd
 congr 1
 funext j
 by_cases e : j = 0
 ·subst e; simp [addL]
 ·simp only [if_neg e]
theorem half_next (s : SS) (i : Nat) : s.half (i + 1) = (s.half i).upd 0 (addL (s.S 0) ((s.S 2).take (i + 1))) := by
 unfold SS.half SS.upd
 congr 1
 funext j
 by_cases e : j = 0
 ·simp only [if_pos e]
 ·simp only [if_neg e]
theorem half_all (s : SS) {i : Nat} (h : (s.S 2).length ≤ i) : s.half i = s.settled := by
 unfold SS.half SS.settled
 rw [List.take_of_length_le h]
def Far (V1 : Nat → Value) (v : Value) : Prop := ∀ k, k < 3 → ∀ g, (V1 k).ownBlock = some g → v.ownBlock ≠ some g
theorem updV_mem (V : Nat → Value) (k : Nat) (v : Value) (j : Nat) : updV V k v j = if j = k then v else V j := rfl
set_option maxHeartbeats 6400000 in
theorem settle_sp {w : World} {base b m n : Nat} {F : Nat → Option Value} {V : Nat → Value} {s : SS} (h : Spc w base b m n F V s) (hbs : base ≤ w.heap.size) :
  Calls Tryz.prog 69 #[.pointer (some ⟨b, 0, none⟩)] w fun er w' => er = .returned (.int .i64 (cnt (s.S 2) : Int)) ∧ ∃ F' V', Spc w' base b m 3 F' V' s.settled ∧ Chg w w' b m V V' := by
 have hn := Lib.hid (none_rg h)
 have c2 : w.cell? ⟨b, 2, none⟩ = some (.map (some m)) := h.mem.blk.cell 2
 have hl : (Instr.lookup 148 (.map (some m)) (.int .i64 2) false).run Tryz.prog w = .ok (.agg #[V 2, .int .i64 (cnt (s.S 2) : Int)]) w := h.mem.look (k := 2) (by omega)
 obtain ⟨A, c, hv, _, _, _, _⟩ := (h.mem.own 2 (by omega)).shape
 obtain ⟨nl, hnl⟩ : ∃ nl, nl = (s.S 2).length := ⟨_, rfl⟩
 obtain ⟨cn, hcn⟩ : ∃ cn, cn = cnt (s.S 2) := ⟨_, rfl⟩
 rw [← hnl] at hv
 rw [hv, ← hcn] at hl
 obtain ⟨rl, hrl⟩ : ∃ rl, rl = w.heap.size := ⟨_, rfl⟩
 obtain ⟨W, hW⟩ : ∃ W, W = w.alloc (.cells #[.slice A nl c, .int .i64 (cn : Int)] 147) := ⟨_, rfl⟩
 have hb1 : Below w.heap.size w W := by rw [hW]; exact (Below.refl _ _).alloc (Nat.le_refl _) _
 have HRL : Hid (Blk W rl 147 #[.slice A nl c, .int .i64 (cn : Int)]) := Lib.hid (by rw [hW, hrl]; exact Blk.new _ _ _)
 have HSW : Hid (Spc W base b m 3 F V s) := Lib.hid ⟨(h.mem.below hb1 (Nat.le_refl _)).three, h.good⟩
 have HG := Lib.hid h.good
 have HL1 := Lib.hid hb1
 have HV := Lib.hid hv
 have HNL := Lib.hid (⟨hnl, hcn, hrl⟩ : _ ∧ _ ∧ _)
 have d2 : W.cell? ⟨b, 2, none⟩ = some (.map (some m)) := HSW.out.mem.blk.cell 2
 have hln : nl ≤ 100000 := by rw [hnl]; exact h.len (by omega)
 rw [← hcn]
 clear h hv hnl hcn hb1
 go_enter Tryz.func69, Tryz.ntmps69
 go_wp2_with fail
 refine hn.out.mono ?_
 rintro e w' ⟨rfl, hw⟩
 have hw := hw.symm
 subst hw
 go_upto_region 4 with (fail)
 rw [← hrl, ← hW]
 clear hW hrl hl c2 hn
 go_wp2_with ((refine wpList_delete_I _ rfl (.tmp 16) (.const (.int .i64 2)) rfl rfl (k := 2) rfl (by decide) HSW.out.mem.map ?_; intro W2 hm2 hg2; refine of_hid ?_))
 refine Lib.hid ?_
 obtain ⟨hM2, hC2⟩ := HSW.out.mem.drop (by omega) hm2 hg2
 have HM2 : Hid (Mem W2 base b m 3 (delI F 2) (updV V 2 (.slice none 0 0)) (s.half 0)) := Lib.hid (by rw [half_zero]; exact hM2)
 have HO2 : Hid (Own W2 base (V 2) (s.S 2)) := Lib.hid ((HSW.out.mem.own 2 (by omega)).grown hg2 (fun g hg e => by injection e with e; exact (HSW.out.mem.own_ne (k := 2) (by omega)).2 (by rw [hg, e])))
 have HF2 : Hid (Far (updV V 2 (.slice none 0 0)) (V 2)) := Lib.hid fun k hk g hg => by
  rw [updV_mem] at hg
  by_cases e : k = 2
  ·rw [if_pos e] at hg; cases hg
  ·rw [if_neg e] at hg
   exact HSW.out.mem.apart k 2 hk (by omega) e g hg
 have HC2 : Hid (Chg w W2 b m V (updV V 2 (.slice none 0 0))) := Lib.hid ((Chg.of_below HL1.out).trans hC2)
 have hneb : rl ≠ m := fun e => HSW.out.mem.map.ne_blk HRL.out e.symm
 have HB2 := Lib.hid (Blk_grown HRL.out hg2 (fun e => by injection e with e; exact hneb e))
 have hsz2 : w.heap.size ≤ W2.heap.size := Nat.le_trans HL1.out.size hg2.size
 have HNE : Hid (rl ≠ m ∧ rl ≠ b ∧ ∀ k, k < 3 → (V k).ownBlock ≠ some rl) := Lib.hid ⟨hneb, fun e => by
  have h1 := HRL.out; have h2 := HSW.out.mem.blk
  rw [e] at h1
  unfold Blk at h1 h2
  rw [h1] at h2
  injection h2 with h2
  injection h2 with _ h2
  exact absurd h2 (by decide), fun k hk e => by
   obtain ⟨cur, h1⟩ := (HSW.out.mem.own k hk).blk_of e
   have h2 := HRL.out
   unfold Blk at h1 h2
   rw [h1] at h2
   injection h2 with h2
   injection h2 with _ h2
   exact absurd h2 (by decide)⟩
 have p0 : W2.cell? ⟨rl, 0, none⟩ = some (.slice A nl c) := HB2.out.cell 0
 clear hm2 hg2 hM2 hC2 hneb HRL d2
 go_wp2_with fail
 clear p0
 go_loopw [20] (fun y wr => ∃ (i : Nat) (F1 : Nat → Option Value) (V1 : Nat → Value), i ≤ nl ∧ y = .int .i64 (i : Int) ∧ Hid (Mem wr base b m 3 F1 V1 (s.half i)) ∧ Hid (Own wr base (V 2) (s.S 2)) ∧ Hid (Far V1 (V 2)) ∧ Hid (Chg w wr b m V V1) ∧ Hid (Blk wr rl 147 #[.slice A nl c, .int .i64 (cn : Int)]) ∧ w.heap.size ≤ wr.heap.size) (fun y _ => nl - (intOf y).toNat)
 case atStart => exact ⟨0, _, _, by omega, rfl, HM2, HO2, HF2, HC2, HB2, hsz2⟩
 case round =>
  clear HM2 HO2 HF2 HC2 HB2 hsz2
  obtain ⟨i, F1, V1, hi, rfl, HM, HO, HF, HC, HB, hsz⟩ := hrel
  by_cases hlt : i < nl
  ·have i1 : (i : Int) < (nl : Int) := by omega
   have hsh := HO.out.shape
   rw [HV.out] at hsh
   obtain ⟨A', c', hs, hRd, _, _, _⟩ := hsh
   injection hs with hs1 hs2 hs3
   subst hs1
   clear hs2 hs3
   obtain ⟨r, g, o, hg, hAe, h1, h2⟩ := hRd.at_ (i := i) (by have := HNL.out.1; omega)
   subst hAe
   have hrm := ((HG.out.ris 2 (by omega)).lt_ r (List.mem_of_getElem? hg))
   have hr2 := ((HG.out.ris 2 (by omega)).in_ (HG.out.in_ 2 (by omega)) r (List.mem_of_getElem? hg)).2
   have hcc := HG.out.hc.2
   obtain ⟨x, hx⟩ : ∃ x, x = r.1 := ⟨_, rfl⟩
   obtain ⟨y, hy⟩ : ∃ y, y = r.2 := ⟨_, rfl⟩
   rw [← hx] at h1 hrm
   rw [← hy] at h2 hrm hr2
   have hxy : x < y := hrm
   have hyb : y ≤ 40000 := by omega
   obtain ⟨bx, hbx⟩ : ∃ bx, bx = wr.heap.size := ⟨_, rfl⟩
   obtain ⟨W, hW⟩ : ∃ W, W = wr.alloc (.cells #[.int .i64 (x : Int), .int .i64 (y : Int)] 61) := ⟨_, rfl⟩
   have BW : Below wr.heap.size wr W := by rw [hW]; exact (Below.refl _ _).alloc (Nat.le_refl _) _
   have MW := HM.out.below BW (Nat.le_refl _)
   have OW := HO.out.below BW (Nat.le_refl _)
   have XW : Blk W bx 61 #[.int .i64 (x : Int), .int .i64 (y : Int)] := by rw [hW, hbx]; exact Blk.new _ _ _
   have RW := HB.out.below BW HB.out.lt
   obtain ⟨k1, k2, k3, k4, k5⟩ := addL_next (HG.out.ris 0 (by omega)) (HG.out.ris 2 (by omega)) (fun q h3 h4 => absurd (HG.out.one 2 0 q (by omega) (by omega) h3 h4) (by omega)) hg
   rw [← hx, ← hy] at k3 k4 k5
   have hin : ∀ q, mem (addL (s.S 0) ((s.S 2).take i)) q → q < s.cells := fun q hq => (k2 q hq).elim (HG.out.in_ 0 (by omega) q) (HG.out.in_ 2 (by omega) q)
   have hlen0 := k1.len hin
   have hcnt0 := k1.cnt_le hin
   have hwi := with_rg W.drew base (V1 0) (addL (s.S 0) ((s.S 2).take i)) (cnt (addL (s.S 0) ((s.S 2).take i))) x y (MW.own 0 (by omega)).drew (Nat.le_trans hbs (Nat.le_trans hsz BW.size)) (by omega) (by omega) hxy (by omega) k1
   obtain ⟨A2, c2, hv2, _, _, _, _⟩ := (MW.own 0 (by omega)).shape
   have hlk : ∀ w1, MapI w1 m 3 F1 → (Instr.lookup 148 (.map (some m)) (.int .i64 0) false).run Tryz.prog w1 = .ok (.agg #[V1 0, .int .i64 (cnt (addL (s.S 0) ((s.S 2).take i)) : Int)]) w1 := fun w1 h1 => by
    have h2 := h1.look Tryz.underlying148 (zero_part w1) (show 0 < 4611686018427387904 by omega) false
    have h3 := MW.val 0 (by omega)
    unfold zp at h3
    rw [h3] at h2
    exact h2
   obtain ⟨n2, hn2⟩ : ∃ n2, n2 = ((s.half i).S 0).length := ⟨_, rfl⟩
   obtain ⟨d1, hd1⟩ : ∃ d1, d1 = cnt (addL (s.S 0) ((s.S 2).take i)) := ⟨_, rfl⟩
   rw [← hn2] at hv2
   rw [hv2, ← hd1] at hwi hlk
   have hd1b : d1 ≤ 40000 := by omega
   have HWI := Lib.hid hwi
   have HLK := Lib.hid hlk
   have HV2 := Lib.hid hv2
   have HMW := Lib.hid MW
   have HOW := Lib.hid OW
   have HRW := Lib.hid RW
   have HBW := Lib.hid BW
   have HKK := Lib.hid (⟨k4, k5, hd1⟩ : _ ∧ _ ∧ _)
   obtain ⟨C, hC⟩ : ∃ C, C = s.cells := ⟨_, rfl⟩
   obtain ⟨K, hK⟩ : ∃ K, K = s.kept := ⟨_, rfl⟩
   have hBb : Blk W.drew b 150 #[.int .i64 (C : Int), .int .i64 (K : Int), .map (some m)] := by rw [hC, hK]; exact MW.blk.drew
   have hbb : bx ≠ b ∧ bx ≠ m ∧ (V1 0).ownBlock ≠ some bx := by
    refine ⟨fun e => ?_, fun e => MW.map.ne_blk XW e.symm, fun e => ?_⟩
    ·have := HM.out.blk.lt; omega
    ·have := ((HM.out.own 0 (by omega)).lt e).1; omega
   have HS6 := Lib.hid (⟨hBb, MW.map.drew, XW.drew⟩ : Blk W.drew b 150 #[.int .i64 (C : Int), .int .i64 (K : Int), .map (some m)] ∧ MapI W.drew m 3 F1 ∧ Blk W.drew bx 61 #[.int .i64 (x : Int), .int .i64 (y : Int)])
   have HNE6 := Lib.hid (⟨(MW.own_ne (k := 0) (by omega)).1, (MW.own_ne (k := 0) (by omega)).2, hbb.2.2⟩ : (V1 0).ownBlock ≠ some b ∧ (V1 0).ownBlock ≠ some m ∧ (V1 0).ownBlock ≠ some bx)
   have HFR := Lib.hid (HF.out 0 (by omega))
   have hne_r : (V1 0).ownBlock ≠ some rl := fun e => by
    obtain ⟨cur, h1⟩ := (HM.out.own 0 (by omega)).blk_of e
    have h2 := HB.out
    unfold Blk at h1 h2
    rw [h1] at h2
    injection h2 with h2
    injection h2 with _ h2
    exact absurd h2 (by decide)
   have HNR := Lib.hid hne_r
   clear hg hrm hr2 hcc hx hy BW MW OW XW RW k1 k2 k3 k4 k5 hin hlen0 hcnt0 hwi hlk hv2 hn2 hd1 hC hK hBb hbb HM HO hRd HB hne_r
   go_upto_region 8 with (fail)
   rw [← hbx, ← hW]
   clear hW hbx h1 h2
   refine region_anyZ (fun w' => Blk w' b 150 #[.int .i64 (C : Int), .int .i64 (K : Int), .map (some m)] ∧ MapI w' m 3 F1 ∧ Blk w' bx 61 #[.int .i64 (x : Int), .int .i64 (y : Int)]) 11 (by kernel_rfl) ?_
   refine takeG 0 (.move (.tmp 0)) (some 24) none (.pointer (some ⟨b, 0, none⟩)) (by kernel_rfl) (by kernel_rfl) (by kernel_rfl) (fun _ _ _ h => h) (fun o wq e hS => exec_move wq e (by kernel_rfl)) HS6.out ?_
   refine takeG 1 (.nilCheck (.tmp 24)) (some 25) none (.pointer (some ⟨b, 0, none⟩)) (by kernel_rfl) (by kernel_rfl) (by kernel_rfl) (fun _ _ _ h => h) (fun o wq e hS => exec_nil wq e (by kernel_rfl)) HS6.out ?_
   refine takeG 2 (.fieldAddr 150 (.tmp 25) 2) (some 26) none (.pointer (some ⟨b, 2, none⟩)) (by kernel_rfl) (by kernel_rfl) (by kernel_rfl) (fun _ _ _ h => h) (fun o wq e hS => exec_field (u := .pointer (some ⟨b, 0, none⟩)) wq e (by kernel_rfl) (by kernel_rfl)) HS6.out ?_
   refine takeG 3 (.load 148 (.tmp 26)) (some 27) none (.map (some m)) (by kernel_rfl) (by kernel_rfl) (by kernel_rfl) (fun _ _ _ h => h) (fun o wq e hS => exec_load (x := (.tmp 26)) e (by kernel_rfl) (load_one Tryz.underlying148 (by kernel_rfl) (hS.1.cell 2))) HS6.out ?_
   refine takeG 4 (.move (.tmp 0)) (some 28) none (.pointer (some ⟨b, 0, none⟩)) (by kernel_rfl) (by kernel_rfl) (by kernel_rfl) (fun _ _ _ h => h) (fun o wq e hS => exec_move wq e (by kernel_rfl)) HS6.out ?_
   refine takeG 5 (.nilCheck (.tmp 28)) (some 29) none (.pointer (some ⟨b, 0, none⟩)) (by kernel_rfl) (by kernel_rfl) (by kernel_rfl) (fun _ _ _ h => h) (fun o wq e hS => exec_nil wq e (by kernel_rfl)) HS6.out ?_
   refine takeG 6 (.fieldAddr 150 (.tmp 29) 2) (some 30) none (.pointer (some ⟨b, 2, none⟩)) (by kernel_rfl) (by kernel_rfl) (by kernel_rfl) (fun _ _ _ h => h) (fun o wq e hS => exec_field (u := .pointer (some ⟨b, 0, none⟩)) wq e (by kernel_rfl) (by kernel_rfl)) HS6.out ?_
   refine takeG 7 (.load 148 (.tmp 30)) (some 31) none (.map (some m)) (by kernel_rfl) (by kernel_rfl) (by kernel_rfl) (fun _ _ _ h => h) (fun o wq e hS => exec_load (x := (.tmp 30)) e (by kernel_rfl) (load_one Tryz.underlying148 (by kernel_rfl) (hS.1.cell 2))) HS6.out ?_
   refine takeG 8 (.lookup 148 (.tmp 31) (.const (.int .i64 0)) false) (some 32) none (.agg #[.slice A2 n2 c2, .int .i64 (d1 : Int)]) (by kernel_rfl) (by kernel_rfl) (by kernel_rfl) (fun _ _ _ h => h) (fun o wq e hS => exec_look (u1 := .map (some m)) (u2 := (.int .i64 0)) wq e (by kernel_rfl) (by kernel_rfl) (HLK.out _ hS.2.1)) HS6.out ?_
   refine takeG 9 (.load 61 (.tmp 5)) (some 33) none (.agg #[.int .i64 (x : Int), .int .i64 (y : Int)]) (by kernel_rfl) (by kernel_rfl) (by kernel_rfl) (fun _ _ _ h => h) (fun o wq e hS => exec_load (x := (.tmp 5)) e (by kernel_rfl) (load_range hS.2.2)) HS6.out ?_
   refine loneG 10 (.call ⟨.value (.func 122), #[(.tmp 32), (.tmp 33)], #[147, 61]⟩) (some 34) none (by kernel_rfl) (by kernel_rfl) (by kernel_rfl) ?_
   intro o ho hod
   refine wp_callC (f := 122) (args := #[.agg #[.slice A2 n2 c2, .int .i64 (d1 : Int)], .agg #[.int .i64 (x : Int), .int .i64 (y : Int)]]) (by cases o; cases ho; kernel_rfl) HWI.out ?_
   rintro ee W7 ⟨v2, rfl, hp7⟩
   refine ⟨.agg #[v2, .int .i64 ((d1 + (y - x) : Nat) : Int)], rfl, ?_⟩
   rw [hod]
   clear hod ho
   have HP7 := Lib.hid hp7
   rw [HV2.out] at HNE6
   have HS7 : Hid (Blk W7 b 150 #[.int .i64 (C : Int), .int .i64 (K : Int), .map (some m)] ∧ MapI W7 m 3 F1 ∧ Blk W7 bx 61 #[.int .i64 (x : Int), .int .i64 (y : Int)]) := Lib.hid ⟨Blk_grown HS6.out.1 hp7.2.1 (fun e => HNE6.out.1 e.symm), HS6.out.2.1.grown hp7.2.1 (fun e => HNE6.out.2.1 e.symm), Blk_grown HS6.out.2.2 hp7.2.1 (fun e => HNE6.out.2.2 e.symm)⟩
   clear hp7 HS6 HWI
   refine ⟨fun _ => HS7.out, ?_⟩
   refine lastOp 11 (.mapUpdate 148 (.tmp 27) (.const (.int .i64 0)) (.tmp 34)) none (by kernel_rfl) (by kernel_rfl) (by kernel_rfl) rfl ?_
   intro o ho hod
   obtain ⟨W8, hrun, m8, g8, s8⟩ := HS7.out.2.1.put Tryz.underlying148 (show 3 < maxLen by decide) (show 0 < 3 by omega) (.agg #[v2, .int .i64 ((d1 + (y - x) : Nat) : Int)])
   refine wp_put ho (by kernel_rfl) (by kernel_rfl) (by kernel_rfl) hrun ?_
   rw [hod]
   clear hod ho
   simp only [put_some, put_none, List.setIfInBounds_toArray, List.set_cons_succ, List.set_cons_zero]
   have hp7 := HP7.out
   rw [← HV2.out] at hp7
   have hst8 := HMW.out.drew.step (k := 0) (by omega) hp7 m8 (by rw [HKK.out.2.1, ← HKK.out.2.2]) g8
   rw [← HKK.out.1, ← half_next] at hst8
   have HM8 := Lib.hid hst8.1.three
   have HC8 := Lib.hid (HC.out.trans ((Chg.of_below HBW.out.drew).trans hst8.2))
   have HO8 := Lib.hid ((HOW.out.drew.grown hp7.2.1 (fun g hg e => HFR.out g e.symm hg)).grown g8 (fun g hg e => by
    injection e with e
    obtain ⟨cur, h1⟩ := HOW.out.blk_of hg
    exact HMW.out.map.ne_blk h1 e.symm))
   have HB8 := Lib.hid (Blk_grown (Blk_grown HRW.out.drew hp7.2.1 (fun e => HNR.out e.symm)) g8 (fun e => by injection e with e; exact HNE.out.1 e))
   have HF8 : Hid (Far (updV V1 0 v2) (V 2)) := Lib.hid fun k hk g hg => by
    rw [updV_mem] at hg
    by_cases e : k = 0
    ·rw [if_pos e] at hg
     rcases hp7.2.2 with h3 | ⟨g2, h3, h4⟩
     ·exact HFR.out g (h3.symm.trans hg)
     ·intro h5
      rw [h3] at hg
      injection hg with hg
      have := (HOW.out.lt h5).1
      have h6 : W.drew.heap.size = W.heap.size := rfl
      omega
    ·rw [if_neg e] at hg
     exact HF.out k hk g hg
   have hsz8 : w.heap.size ≤ W8.heap.size := by
    have := hp7.2.1.size
    have h6 : W.drew.heap.size = W.heap.size := rfl
    have h7 := HBW.out.size
    omega
   clear hp7 hst8 m8 g8 s8 hrun
   go_wp2_with fail
   go_roundw
   case rel => exact ⟨i + 1, _, _, by omega, by go_num, HM8, HO8, HF8, HC8, HB8, hsz8⟩
   case measure => simp [intOf]; omega
  ·have i1 : ¬ ((i : Int) < (nl : Int)) := by omega
   have hAll := half_all s (i := i) (by have := HNL.out.1; omega)
   have HE : Hid (Spc wr base b m 3 F1 V1 s.settled) := Lib.hid ⟨by have := HM.out; rw [hAll] at this; exact this, HG.out.settled⟩
   have q1 : wr.cell? ⟨rl, 1, none⟩ = some (.int .i64 (cn : Int)) := HB.out.cell 1
   clear hAll HM HO HF
   go_wp2_with fail
   go_ret
   exact ⟨rfl, F1, V1, HE.out, HC.out⟩
end Sp
end Go.Proofs.YtgbehfkimchglaaGreatDoor
