/-
  What comes in as a list of structs whose fields are numbers (or a bool and numbers). Conditions: what the reading of an argument gives.
-/
import Derived.Test.YtikenhcglbfgpaaDoorItnCutM
import Derived.Deep.Strs
import Derived.Deep.Fields
import Derived.ProofKit
import Derived.Deep.Grids
namespace Go.Proofs.YtikenhcglbfgpaaDoor
open Go Go.RowKit Go.ChangeShapes Go.WideShapes Go.ChangeAt
set_option maxRecDepth 100000
set_option linter.unusedVariables false
namespace Gr
section
variable {H : Type} {enc : TypeId × Value → H} {P : Program} {W : World} {base : Nat} {held : Bool}
theorem gen_of_trod {α : Type} (x0 : α) (cs : α → List Value) (q : α → Prop) {k : Nat} {t e : TypeId} {fuel len cap : Nat} {a : Option Addr} {x : DataW H × List MemPlace} (hk : ∀ x, (cs x).length = k) (hk0 : 0 < k) (ht : P.underlying t = some (.slice e)) (hC : P.cellsOf e = k)
    (hel : ∀ n (c : List Value) y, c.length = k → DataW.trod enc P W base (fun _ => true) held n e c = some y → ∃ x : α, c = cs x ∧ q x)
    (h : DataW.trod enc P W base (fun _ => true) held fuel t (Value.slice a len cap).cells.toList = some x) :
    ∃ l : List α, len = l.length ∧ RdG k cs W a l ∧ (∀ y ∈ l, q y) ∧ l.length ≤ cap ∧ cap ≤ maxLen ∧ (a = none → cap = 0) := by
  rcases Go.Deep.open_slice ht h with ⟨hcs, _⟩ | ⟨ad, l, c, m, n, D, Pl, hcs, _, hl, hm, hmm, _, hx⟩
  · simp [Value.cells] at hcs
    obtain ⟨rfl, rfl, rfl⟩ := hcs
    exact ⟨[], rfl, (fun j y hj => by simp at hj), (fun y hy => by simp at hy), by simp, by unfold maxLen; omega, fun _ => rfl⟩
  · simp [Value.cells] at hcs
    obtain ⟨rfl, rfl, rfl⟩ := hcs
    simp at hmm
    have each : ∀ i, ∃ y : α, i < m → (∀ j u, (cs y)[j]? = some u → W.cell? ((ad.add (i * k)).add j) = some u) ∧ q y := by
      intro i
      by_cases hi : i < m
      · obtain ⟨cs', h1, h2⟩ := hx i hi
        rw [hC] at h1
        obtain ⟨_, hlen, hcell⟩ := World.cells?_some h1
        obtain ⟨y, rfl, hq⟩ := hel _ _ _ hlen h2
        refine ⟨y, fun _ => ⟨fun j u hu => ?_, hq⟩⟩
        have hj := (List.getElem?_eq_some_iff.1 hu).1
        rw [hk] at hj
        have h3 := hcell j hj
        rw [h3, hu]
      · exact ⟨x0, fun h => absurd h hi⟩
    obtain ⟨f, hf⟩ := Classical.skolem.1 each
    refine ⟨(List.range len).map f, by simp, ?_, ?_, by simpa using hl, hm, fun e => by cases e⟩
    · intro j y hj
      have hjl : j < len := by have := (List.getElem?_eq_some_iff.1 hj).1; simpa using this
      have e : f j = y := by simpa [hjl] using hj
      have hc := (hf j (by omega)).1
      rw [e] at hc
      obtain ⟨b, o, sp⟩ := ad
      obtain ⟨u0, hu0⟩ : ∃ u0, (cs y)[0]? = some u0 := ⟨_, List.getElem?_eq_getElem (by rw [hk]; exact hk0)⟩
      have hsp : sp = none := by
        obtain ⟨u1, hu1⟩ : ∃ u1, (cs (f 0))[0]? = some u1 := ⟨_, List.getElem?_eq_getElem (by rw [hk]; exact hk0)⟩
        have h2 := World.cell?_spot ((hf 0 (by omega)).1 0 u1 hu1)
        simpa [Addr.add] using h2
      subst hsp
      have h0 := hc 0 u0 hu0
      simp only [add_plain] at h0 hc
      exact ⟨b, o, rfl, block_lt_of_cell h0, fun j u hu => hc j u hu⟩
    · intro y hy
      simp only [List.mem_map, List.mem_range] at hy
      obtain ⟨j, hj, rfl⟩ := hy
      exact (hf j (by omega)).2
def Z64' (x : Int) : Prop := -9223372036854775808 ≤ x ∧ x ≤ 9223372036854775807
def cs2 (x : Int × Int) : List Value := [.int .i64 x.1, .int .i64 x.2]
def cs3 (x : Int × Int × Int) : List Value := [.int .i64 x.1, .int .i64 x.2.1, .int .i64 x.2.2]
def csB (x : Bool × Int × Int) : List Value := [.bool x.1, .int .i64 x.2.1, .int .i64 x.2.2]
theorem rgs_of_trod {t e : TypeId} {f0 f1 : Field} {fuel len cap : Nat} {a : Option Addr} {x : DataW H × List MemPlace} (ht : P.underlying t = some (.slice e)) (he : P.underlying e = some (.struct #[f0, f1]))
    (hone : Go.Deep.oneCellFields P #[f0, f1] = true) (hC : P.cellsOf e = 2) (u0 : P.underlying f0.type = some (.int .i64)) (u1 : P.underlying f1.type = some (.int .i64))
    (h : DataW.trod enc P W base (fun _ => true) held fuel t (Value.slice a len cap).cells.toList = some x) :
    ∃ l : List (Int × Int), len = l.length ∧ RdG 2 cs2 W a l ∧ (∀ y ∈ l, Z64' y.1 ∧ Z64' y.2) ∧ l.length ≤ cap ∧ cap ≤ maxLen ∧ (a = none → cap = 0) := by
  refine gen_of_trod (0, 0) cs2 _ (fun _ => rfl) (by omega) ht hC (fun n c y hlen h2 => ?_) h
  obtain ⟨o0, k0⟩ := Go.Deep.hone_of hone 0 f0 rfl
  obtain ⟨o1, k1⟩ := Go.Deep.hone_of hone 1 f1 rfl
  obtain ⟨y0, y1, n', _, _, g0, g1⟩ := trod_struct2 he h2
  match c, hlen with
  | [v0, v1], _ =>
    simp [o0, o1, k0, k1] at g0 g1
    obtain ⟨z0, q0, _, r0⟩ := DataW.trod_int u0 g0
    obtain ⟨z1, q1, _, r1⟩ := DataW.trod_int u1 g1
    simp at q0 q1
    subst q0; subst q1
    exact ⟨(z0, z1), rfl, bounds_i64 r0, bounds_i64 r1⟩
theorem ops3_of_trod {t e : TypeId} {f0 f1 f2 : Field} {fuel len cap : Nat} {a : Option Addr} {x : DataW H × List MemPlace} (ht : P.underlying t = some (.slice e)) (he : P.underlying e = some (.struct #[f0, f1, f2]))
    (hone : Go.Deep.oneCellFields P #[f0, f1, f2] = true) (hC : P.cellsOf e = 3) (u0 : P.underlying f0.type = some (.int .i64)) (u1 : P.underlying f1.type = some (.int .i64)) (u2 : P.underlying f2.type = some (.int .i64))
    (h : DataW.trod enc P W base (fun _ => true) held fuel t (Value.slice a len cap).cells.toList = some x) :
    ∃ l : List (Int × Int × Int), len = l.length ∧ RdG 3 cs3 W a l ∧ (∀ y ∈ l, Z64' y.1 ∧ Z64' y.2.1 ∧ Z64' y.2.2) ∧ l.length ≤ cap ∧ cap ≤ maxLen ∧ (a = none → cap = 0) := by
  refine gen_of_trod (0, 0, 0) cs3 _ (fun _ => rfl) (by omega) ht hC (fun n c y hlen h2 => ?_) h
  obtain ⟨o0, k0⟩ := Go.Deep.hone_of hone 0 f0 rfl
  obtain ⟨o1, k1⟩ := Go.Deep.hone_of hone 1 f1 rfl
  obtain ⟨o2, k2⟩ := Go.Deep.hone_of hone 2 f2 rfl
  obtain ⟨y0, y1, y2, n', _, _, g0, g1, g2⟩ := Go.Deep.trod_struct3 he h2
  match c, hlen with
  | [v0, v1, v2], _ =>
    simp [o0, o1, o2, k0, k1, k2] at g0 g1 g2
    obtain ⟨z0, q0, _, r0⟩ := DataW.trod_int u0 g0
    obtain ⟨z1, q1, _, r1⟩ := DataW.trod_int u1 g1
    obtain ⟨z2, q2, _, r2⟩ := DataW.trod_int u2 g2
    simp at q0 q1 q2
    subst q0; subst q1; subst q2
    exact ⟨(z0, z1, z2), rfl, bounds_i64 r0, bounds_i64 r1, bounds_i64 r2⟩
theorem opsb_of_trod {t e : TypeId} {f0 f1 f2 : Field} {fuel len cap : Nat} {a : Option Addr} {x : DataW H × List MemPlace} (ht : P.underlying t = some (.slice e)) (he : P.underlying e = some (.struct #[f0, f1, f2]))
    (hone : Go.Deep.oneCellFields P #[f0, f1, f2] = true) (hC : P.cellsOf e = 3) (u0 : P.underlying f0.type = some .bool) (u1 : P.underlying f1.type = some (.int .i64)) (u2 : P.underlying f2.type = some (.int .i64))
    (h : DataW.trod enc P W base (fun _ => true) held fuel t (Value.slice a len cap).cells.toList = some x) :
    ∃ l : List (Bool × Int × Int), len = l.length ∧ RdG 3 csB W a l ∧ (∀ y ∈ l, Z64' y.2.1 ∧ Z64' y.2.2) ∧ l.length ≤ cap ∧ cap ≤ maxLen ∧ (a = none → cap = 0) := by
  refine gen_of_trod (false, 0, 0) csB _ (fun _ => rfl) (by omega) ht hC (fun n c y hlen h2 => ?_) h
  obtain ⟨o0, k0⟩ := Go.Deep.hone_of hone 0 f0 rfl
  obtain ⟨o1, k1⟩ := Go.Deep.hone_of hone 1 f1 rfl
  obtain ⟨o2, k2⟩ := Go.Deep.hone_of hone 2 f2 rfl
  obtain ⟨y0, y1, y2, n', _, _, g0, g1, g2⟩ := Go.Deep.trod_struct3 he h2
  match c, hlen with
  | [v0, v1, v2], _ =>
    simp [o0, o1, o2, k0, k1, k2] at g0 g1 g2
    obtain ⟨z0, q0, _⟩ := DataW.trod_bool u0 g0
    obtain ⟨z1, q1, _, r1⟩ := DataW.trod_int u1 g1
    obtain ⟨z2, q2, _, r2⟩ := DataW.trod_int u2 g2
    simp at q0 q1 q2
    subst q0; subst q1; subst q2
    exact ⟨(z0, z1, z2), rfl, bounds_i64 r1, bounds_i64 r2⟩
def csI (x : Int) : List Value := [.int .i64 x]
theorem nums_of_trod {t e : TypeId} {fuel len cap : Nat} {a : Option Addr} {x : DataW H × List MemPlace} (ht : P.underlying t = some (.slice e)) (he : P.underlying e = some (.int .i64)) (hC : P.cellsOf e = 1)
    (h : DataW.trod enc P W base (fun _ => true) held fuel t (Value.slice a len cap).cells.toList = some x) :
    ∃ l : List Int, len = l.length ∧ RdG 1 csI W a l ∧ (∀ y ∈ l, Z64' y) ∧ l.length ≤ cap ∧ cap ≤ maxLen ∧ (a = none → cap = 0) := by
  refine gen_of_trod 0 csI _ (fun _ => rfl) (by omega) ht hC (fun n c y hlen h2 => ?_) h
  match c, hlen with
  | [v0], _ =>
    obtain ⟨z0, q0, _, r0⟩ := DataW.trod_int he h2
    simp at q0
    subst q0
    exact ⟨z0, rfl, bounds_i64 r0⟩
end
end Gr
end Go.Proofs.YtikenhcglbfgpaaDoor
