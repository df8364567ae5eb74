/-
  The map of a space has three entries at most. No conditions beyond those that each theorem types.
-/
import Derived.Test.YtpbojhjbjnoihaaSpcNew
namespace Go.Proofs.Ytpbojhjbjnoihaa
open Go Go.RowKit
set_option maxRecDepth 100000
set_option linter.unusedVariables false
namespace Sp
open Go.WideElems (Fit rd rg rd_key rg_of) in
theorem MapI.three {w : World} {b n : Nat} {F : Nat → Option Value} (h : MapI w b n F) : MapI w b 3 F := by
  obtain ⟨D, ⟨es, clock, hb, FT, hs, hD⟩, h2, h3, h4⟩ := h
  refine ⟨D, ⟨es, clock, hb, FT, ?_, hD⟩, h2, h3, h4⟩
  have hkey : ∀ x ∈ es.toList, ∃ k, k < 3 ∧ x.key = ikey k := fun x hx => by
    obtain ⟨y, hy⟩ := FT.reads x hx
    have hk := rd_key hy
    have hm : (rg Try.prog 64 RVi x) ∈ (es.toList.map (rg Try.prog 64 RVi)).foldr DataW.insert [] := mem_sorted.2 (List.mem_map_of_mem hx)
    rw [rg_of hy] at hm
    have hh : Maps.has D y.1 = true := by
      rw [hD, Maps.has_eq, List.any_eq_true]
      exact ⟨y, hm, WideAt.sameKey_self (keyedI.key hk)⟩
    obtain ⟨k, hk3, e⟩ := h4 _ hh
    rw [e] at hk
    obtain ⟨z, e1, e2, _⟩ := Maps.keyOf_int_inv Try.underlying64 hk
    refine ⟨k, hk3, ?_⟩
    rw [e1]
    unfold ilit at e2
    injection e2 with _ e2
    rw [← e2]
    rfl
  have hnd : (es.toList.map (·.key)).Nodup := FT.stamped.2.2
  rw [← Array.length_toList]
  generalize es.toList = l at hkey hnd
  match l, hkey, hnd with
  | [], _, _ => simp
  | [_], _, _ => simp
  | [_, _], _, _ => simp
  | [_, _, _], _, _ => simp
  | x1 :: x2 :: x3 :: x4 :: r, hkey, hnd =>
    obtain ⟨k1, a1, e1⟩ := hkey x1 (by simp)
    obtain ⟨k2, a2, e2⟩ := hkey x2 (by simp)
    obtain ⟨k3, a3, e3⟩ := hkey x3 (by simp)
    obtain ⟨k4, a4, e4⟩ := hkey x4 (by simp)
    simp only [List.map_cons, List.nodup_cons, List.mem_cons, not_or, e1, e2, e3, e4] at hnd
    have n12 : k1 ≠ k2 := fun e => hnd.1.1 (by rw [e])
    have n13 : k1 ≠ k3 := fun e => hnd.1.2.1 (by rw [e])
    have n14 : k1 ≠ k4 := fun e => hnd.1.2.2.1 (by rw [e])
    have n23 : k2 ≠ k3 := fun e => hnd.2.1.1 (by rw [e])
    have n24 : k2 ≠ k4 := fun e => hnd.2.1.2.1 (by rw [e])
    have n34 : k3 ≠ k4 := fun e => hnd.2.2.1.1 (by rw [e])
    omega
theorem Spc.three {w : World} {base b m n : Nat} {F : Nat → Option Value} {V : Nat → Value} {s : SS} (h : Spc w base b m n F V s) : Spc w base b m 3 F V s :=
  ⟨⟨h.mem.blk, h.mem.map.three, h.mem.val, h.mem.own, h.mem.apart, h.mem.lo⟩, h.good⟩
end Sp
end Go.Proofs.Ytpbojhjbjnoihaa
