/-
  Arguments of small bulk: what is handed in is no longer than its bulk. No conditions beyond those that each theorem types.
-/
import Derived.Test.YtoabhbmhjelplaaRows
import Derived.Test.YtoabhbmhjelplaaFieldArgsM
import Derived.Deep.Slices
import Derived.Test.YtoabhbmhjelplaaParFault
import Derived.ProofKit
import Derived.ChangeSlices
namespace Go.Proofs.Ytoabhbmhjelplaa
open Go Go.ChangeShapes Go.WideShapes Go.RowKit
set_option linter.unusedVariables false
section
variable {H : Type} {enc : TypeId × Value → H} {P : Program} {W : World} {base : Nat} {held : Bool}
theorem bulk_pos (d : DataW H) : 1 ≤ Rows.uptoBulk d := by
  cases d with
  | lit l => cases l <;> simp [Rows.uptoBulk]
  | _ => simp [Rows.uptoBulk]
theorem bulk_len : ∀ ds : List (DataW H), ds.length ≤ Rows.uptoBulkAll ds
  | [] => Nat.zero_le _
  | d :: r => by
    have h1 := bulk_pos d
    have h2 := bulk_len r
    simp only [Rows.uptoBulkAll, List.length_cons]
    omega
theorem bulk_mem : ∀ (ds : List (DataW H)) (d : DataW H), d ∈ ds → Rows.uptoBulk d ≤ Rows.uptoBulkAll ds
  | [], d, h => by cases h
  | x :: r, d, h => by
    simp only [Rows.uptoBulkAll]
    rcases List.mem_cons.1 h with rfl | h
    · omega
    · have := bulk_mem r d h; omega
theorem bulk_app : ∀ a b : List (DataW H), Rows.uptoBulkAll (a ++ b) = Rows.uptoBulkAll a + Rows.uptoBulkAll b
  | [], b => by simp [Rows.uptoBulkAll]
  | x :: r, b => by simp only [List.cons_append, Rows.uptoBulkAll, bulk_app r b]; omega
theorem rdb_upto {t e : TypeId} {fuel len cap : Nat} {a : Option Addr} {x : DataW H × List MemPlace} (ht : P.underlying t = some (.slice e)) (he : P.underlying e = some (.int .u8)) (hc : P.cellsOf e = 1)
    (h : DataW.trod enc P W base (fun _ => true) held fuel t (Value.slice a len cap).cells.toList = some x) : len ≤ Rows.uptoBulk x.1 := by
  rcases open_ints ht he hc h with ⟨hcs, _⟩ | ⟨b, l, c, zs, hcs, _, hl, hm, hz, hx, hcell, hwz⟩
  · simp [Value.cells] at hcs
    omega
  · simp [Value.cells] at hcs
    obtain ⟨rfl, rfl, rfl⟩ := hcs
    simp at hz
    rw [hx]
    have h1 := bulk_len (H := H) (lits .u8 (zs.take len))
    simp only [Rows.uptoBulk]
    have h2 : (lits (H := H) .u8 (zs.take len)).length = len := by simp [lits, hz]; omega
    omega
theorem rdr_upto {t e q : TypeId} {fuel len cap : Nat} {a : Option Addr} {x : DataW H × List MemPlace} (ht : P.underlying t = some (.slice e)) (he : P.underlying e = some (.slice q)) (hq : P.underlying q = some (.int .u8))
    (ce : P.cellsOf e = 1) (cq : P.cellsOf q = 1)
    (h : DataW.trod enc P W base (fun _ => true) held fuel t (Value.slice a len cap).cells.toList = some x) :
    ∃ ra rl rc y, RdR W W.heap.size a len ra rl rc y ∧ len ≤ cap ∧ cap ≤ maxLen ∧ (∀ i, i < len → rl i ≤ rc i ∧ rc i ≤ maxLen ∧ (ra i = none → rc i = 0)) ∧ ∀ i, i < len → rl i ≤ Rows.uptoBulk x.1 := by
  rcases Go.Deep.open_int_rows ht he hq ce cq h with ⟨hcs, _⟩ | ⟨x0, l, c, A, L, C, Z, hcs, _, hl, hm, hxe, hall⟩
  · simp [Value.cells] at hcs
    obtain ⟨rfl, rfl, rfl⟩ := hcs
    exact ⟨fun _ => none, fun _ => 0, fun _ => 0, fun _ _ => 0, fun j hj => absurd hj (by omega), by omega, by omega, fun i hi => absurd hi (by omega), fun i hi => absurd hi (by omega)⟩
  · simp [Value.cells] at hcs
    obtain ⟨rfl, rfl, rfl⟩ := hcs
    refine ⟨A, L, C, fun i j => ((Z i).getD j 0).toNat, ?_, hl, hm, fun i hi => ⟨(hall i (by omega)).2.1, (hall i (by omega)).2.2.1, (hall i (by omega)).2.2.2.2.2.1⟩, fun i hi => ?_⟩
    · intro i hi
      obtain ⟨b, o, sp⟩ := x0
      obtain ⟨h0, h1, h2, h3, h4, h5, h6⟩ := hall i (by omega)
      have hsp : sp = none := by
        have h1 := (hall 0 (by omega)).1
        have h2 := World.cell?_spot h1
        simpa [Addr.add] using h2
      subst hsp
      rw [add_plain] at h0
      refine ⟨b, o, rfl, block_lt_of_cell h0, h0, ?_⟩
      cases hA : A i with
      | none =>
        have := h5 hA
        exact fun j hj => absurd hj (by omega)
      | some a' =>
        exact rdb_of_cells (by omega) (fun c hc => (h6 a' hA).2 c (by omega)) h4
    · rw [hxe]
      have h1 := bulk_mem (H := H) ((List.range len).map fun r => Go.Deep.intRow .u8 (A r) (L r) (Z r)) (Go.Deep.intRow .u8 (A i) (L i) (Z i)) (List.mem_map.2 ⟨i, by simpa using hi, rfl⟩)
      have h2 : L i ≤ Rows.uptoBulk (Go.Deep.intRow (H := H) .u8 (A i) (L i) (Z i)) := by
        obtain ⟨_, k1, _, k3, _, k5, _⟩ := hall i (by omega)
        unfold Go.Deep.intRow
        cases hA : A i with
        | none => have := k5 hA; simp; omega
        | some a' =>
          simp only [Rows.uptoBulk]
          have h3 := bulk_len (H := H) (lits .u8 ((Z i).take (L i)))
          have h4 : (lits (H := H) .u8 ((Z i).take (L i))).length = L i := by simp [lits]; omega
          omega
      simp only [Rows.uptoBulk]
      omega
theorem len_upto {t e : TypeId} {fuel len cap : Nat} {a : Option Addr} {x : DataW H × List MemPlace} (ht : P.underlying t = some (.slice e))
    (h : DataW.trod enc P W base (fun _ => true) held fuel t (Value.slice a len cap).cells.toList = some x) : len ≤ Rows.uptoBulk x.1 := by
  rcases Go.Deep.open_slice ht h with ⟨hcs, _⟩ | ⟨ad, l, c, m, n, D, Pl, hcs, _, hl, hm, hmm, hx, _⟩
  · simp [Value.cells] at hcs
    omega
  · simp [Value.cells] at hcs
    obtain ⟨rfl, rfl, rfl⟩ := hcs
    rw [hx]
    have h1 := bulk_len (H := H) ((List.range len).map D)
    simp only [Rows.uptoBulk]
    have h2 : ((List.range len).map D).length = len := by simp
    omega
end
end Go.Proofs.Ytoabhbmhjelplaa
namespace Go.Proofs.Ytoabhbmhjelplaa
open Go Go.RowKit Go.ChangeShapes Go.WideShapes Go.ChangeAt
set_option linter.unusedVariables false
section
variable {H : Type} {enc : TypeId × Value → H} {P : Program} {W : World} {base : Nat} {held : Bool}
theorem rdz_of_trodZ {t e : TypeId} {fuel len cap : Nat} {a : Option Addr} {x : DataW H × List MemPlace} (ht : P.underlying t = some (.slice e)) (he : P.underlying e = some (.int .i64)) (hc : P.cellsOf e = 1)
    (h : DataW.trod enc P W base (fun _ => true) held fuel t (Value.slice a len cap).cells.toList = some x) : ∃ y, RdZ W W.heap.size a len y ∧ len ≤ cap ∧ cap ≤ maxLen ∧ (a = none → cap = 0) := by
  rcases open_ints ht he hc h with ⟨hcs, _⟩ | ⟨x, l, c, zs, hcs, _, hl, hm, hz, hx, hcell, hwz⟩
  · simp [Value.cells] at hcs
    obtain ⟨rfl, rfl, rfl⟩ := hcs
    exact ⟨fun _ => 0, fun j hj => absurd hj (by omega), by omega, by omega, fun _ => rfl⟩
  · simp [Value.cells] at hcs
    obtain ⟨rfl, rfl, rfl⟩ := hcs
    simp at hz
    refine ⟨fun j => zs.getD j 0, fun j hj => ?_, hl, hm, fun e => by cases e⟩
    obtain ⟨b, o, sp⟩ := x
    have h0 := hcell j (by omega)
    have hsp : sp = none := by
      have h1 := hcell 0 (by omega)
      have h2 := World.cell?_spot h1
      simpa [Addr.add] using h2
    subst hsp
    rw [add_plain] at h0
    exact ⟨b, o, rfl, block_lt_of_cell h0, h0⟩
end
end Go.Proofs.Ytoabhbmhjelplaa
