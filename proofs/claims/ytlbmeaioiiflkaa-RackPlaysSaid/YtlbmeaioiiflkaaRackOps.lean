/-
  What comes in as a list of calls of a rack. Conditions: what the reading of an argument gives; the ints of a call take less than 2^47 bytes.
-/
import Derived.Test.YtlbmeaioiiflkaaLawInts
import Derived.ProofKit
import Derived.Deep.Slices
import Derived.Deep.Strs
import Derived.Deep.Fields
import Derived.SizedLaws
namespace Go.Proofs.Ytlbmeaioiiflkaa
open Go Go.RowKit Go.ChangeShapes Go.WideShapes Go.ChangeAt
set_option linter.unusedVariables false
set_option maxRecDepth 100000

/-- a call: its kind, drive, place, fill, number; its picks -/
structure OpV where
  k : Int
  d : Int
  a : Int
  f : Int
  n : Int
  pa : Option Addr
  pn : Nat
  pc : Nat
  px : Nat → Int
/-- the picks of a call -/
def PicksOk (w : World) (B : Nat) (y : OpV) : Prop := RdI w B y.pa y.pn y.px ∧ y.pn ≤ y.pc ∧ (y.pa = none → y.pc = 0) ∧ y.pc * 8 ≤ 140737488351232
/-- n calls, below block B -/
def RdOps (w : World) (B : Nat) (A : Option Addr) (n : Nat) (o : Nat → OpV) : Prop :=
  ∀ i, i < n → ∃ b s, A = some ⟨b, s, none⟩ ∧ b < B ∧ (w.cell? ⟨b, s + i * 6, none⟩ = some (.int .i64 (o i).k) ∧ w.cell? ⟨b, s + i * 6 + 1, none⟩ = some (.int .i64 (o i).d) ∧ w.cell? ⟨b, s + i * 6 + 2, none⟩ = some (.int .i64 (o i).a) ∧
    w.cell? ⟨b, s + i * 6 + 3, none⟩ = some (.int .i64 (o i).f) ∧ w.cell? ⟨b, s + i * 6 + 4, none⟩ = some (.int .i64 (o i).n) ∧ w.cell? ⟨b, s + i * 6 + 5, none⟩ = some (.slice (o i).pa (o i).pn (o i).pc)) ∧
    (I64 (o i).k ∧ I64 (o i).d ∧ I64 (o i).a ∧ I64 (o i).f ∧ I64 (o i).n) ∧ PicksOk w B (o i)
theorem RdOps.below {w w' : World} {B : Nat} {A : Option Addr} {n : Nat} {o : Nat → OpV} (h : RdOps w B A n o) (hb : Below B w w') : RdOps w' B A n o := fun i hi => by
  obtain ⟨b, s, h1, h2, ⟨c0, c1, c2, c3, c4, c5⟩, h4, h5, h6⟩ := h i hi
  exact ⟨b, s, h1, h2, ⟨(hb.cell (p := ⟨b, s + i * 6, none⟩) h2).trans c0, (hb.cell (p := ⟨b, s + i * 6 + 1, none⟩) h2).trans c1, (hb.cell (p := ⟨b, s + i * 6 + 2, none⟩) h2).trans c2, (hb.cell (p := ⟨b, s + i * 6 + 3, none⟩) h2).trans c3,
    (hb.cell (p := ⟨b, s + i * 6 + 4, none⟩) h2).trans c4, (hb.cell (p := ⟨b, s + i * 6 + 5, none⟩) h2).trans c5⟩, h4, h5.below hb, h6⟩
section
variable {H : Type} {enc : TypeId × Value → H} {P : Program} {W : World} {base : Nat} {held : Bool}
theorem weightsAll_mem {e : TypeId} : ∀ {l : List (DataW H)} {d : DataW H}, d ∈ l → ∀ n ∈ d.weights P e, n ∈ DataW.weightsAll P e l
  | d' :: r, d, hd, n, hn => by
    simp only [DataW.weightsAll, List.mem_append]
    rcases List.mem_cons.1 hd with rfl | h
    · exact Or.inl hn
    · exact Or.inr (weightsAll_mem h n hn)
/-- how much a slice in a field of an element takes -/
theorem sized_field {ts : List TypeId} {ds : List (DataW H)} (h : (DataW.weightsEach P ts ds).all (· ≤ reachBytes) = true) {j i : Nat} {t e tf q : TypeId} {fs : Array Field} {elems spare parts es sp : List (DataW H)}
    (ht : ts[j]? = some t) (hd : ds[j]? = some (.slice elems spare)) (hu : P.underlying t = some (.slice e)) (hs : P.underlying e = some (.struct fs)) (hx : DataW.agg parts ∈ elems)
    (hf : (fs.toList.map (·.type))[i]? = some tf) (hp : parts[i]? = some (.slice es sp)) (hq : P.underlying tf = some (.slice q)) : (es.length + sp.length) * P.bytesOf q ≤ reachBytes := by
  refine of_decide_eq_true (List.all_eq_true.1 h _ (DataW.weights_mem_each ht hd _ ?_))
  simp only [DataW.weights, hu, List.mem_cons, List.mem_append]
  refine Or.inr (Or.inl (weightsAll_mem hx _ ?_))
  simp only [DataW.weights, hs]
  exact DataW.weights_mem_each hf hp _ (by simp [DataW.weights, hq])
/-- a slice's value -/
theorem slice_of_trod {t e : TypeId} {fuel : Nat} {v : Value} {x : DataW H × List MemPlace} (ht : P.underlying t = some (.slice e)) (h : DataW.trod enc P W base (fun _ => true) held fuel t [v] = some x) : ∃ a n c, v = .slice a n c := by
  rcases Go.Deep.open_slice ht h with ⟨hcs, _⟩ | ⟨ad, l, c, m, n, D, Pl, hcs, _⟩
  · simp at hcs; exact ⟨_, _, _, hcs⟩
  · simp at hcs; exact ⟨_, _, _, hcs⟩
/-- the data of a call tells how many picks there is room for -/
def OpD (d : DataW H) (y : OpV) : Prop := y.pc = 0 ∨ ∃ parts es sp, d = .agg parts ∧ parts[5]? = some (.slice es sp) ∧ es.length + sp.length = y.pc
theorem op_of_trod {e ei : TypeId} {f0 f1 f2 f3 f4 f5 : Field} {fuel : Nat} {cs : List Value} {x : DataW H × List MemPlace} (he : P.underlying e = some (.struct #[f0, f1, f2, f3, f4, f5]))
    (hone : Go.Deep.oneCellFields P #[f0, f1, f2, f3, f4, f5] = true) (hlen : cs.length = 6) (u0 : P.underlying f0.type = some (.int .i64)) (u1 : P.underlying f1.type = some (.int .i64)) (u2 : P.underlying f2.type = some (.int .i64))
    (u3 : P.underlying f3.type = some (.int .i64)) (u4 : P.underlying f4.type = some (.int .i64)) (u5 : P.underlying f5.type = some (.slice ei)) (u6 : P.underlying ei = some (.int .i64)) (c6 : P.cellsOf ei = 1)
    (h : DataW.trod enc P W base (fun _ => true) held fuel e cs = some x) :
    ∃ y : OpV, cs = [.int .i64 y.k, .int .i64 y.d, .int .i64 y.a, .int .i64 y.f, .int .i64 y.n, .slice y.pa y.pn y.pc] ∧ (I64 y.k ∧ I64 y.d ∧ I64 y.a ∧ I64 y.f ∧ I64 y.n) ∧
      RdI W W.heap.size y.pa y.pn y.px ∧ y.pn ≤ y.pc ∧ (y.pa = none → y.pc = 0) ∧ OpD x.1 y := by
  obtain ⟨xs, n, _, rfl, hl, hxs, hf⟩ := DataW.trod_struct he h
  obtain ⟨o0, k0⟩ := Go.Deep.hone_of hone 0 f0 rfl
  obtain ⟨o1, k1⟩ := Go.Deep.hone_of hone 1 f1 rfl
  obtain ⟨o2, k2⟩ := Go.Deep.hone_of hone 2 f2 rfl
  obtain ⟨o3, k3⟩ := Go.Deep.hone_of hone 3 f3 rfl
  obtain ⟨o4, k4⟩ := Go.Deep.hone_of hone 4 f4 rfl
  obtain ⟨o5, k5⟩ := Go.Deep.hone_of hone 5 f5 rfl
  match xs, hxs, cs, hlen with
  | [x0, x1, x2, x3, x4, x5], _, [v0, v1, v2, v3, v4, v5], _ =>
    have g0 := hf 0 f0 rfl
    have g1 := hf 1 f1 rfl
    have g2 := hf 2 f2 rfl
    have g3 := hf 3 f3 rfl
    have g4 := hf 4 f4 rfl
    have g5 := hf 5 f5 rfl
    rw [o0, k0] at g0
    rw [o1, k1] at g1
    rw [o2, k2] at g2
    rw [o3, k3] at g3
    rw [o4, k4] at g4
    rw [o5, k5] at g5
    replace g0 : DataW.trod enc P W base (fun _ => true) held n f0.type [v0] = some x0 := g0
    replace g1 : DataW.trod enc P W base (fun _ => true) held n f1.type [v1] = some x1 := g1
    replace g2 : DataW.trod enc P W base (fun _ => true) held n f2.type [v2] = some x2 := g2
    replace g3 : DataW.trod enc P W base (fun _ => true) held n f3.type [v3] = some x3 := g3
    replace g4 : DataW.trod enc P W base (fun _ => true) held n f4.type [v4] = some x4 := g4
    replace g5 : DataW.trod enc P W base (fun _ => true) held n f5.type [v5] = some x5 := g5
    obtain ⟨z0, q0, _, r0⟩ := DataW.trod_int u0 g0
    obtain ⟨z1, q1, _, r1⟩ := DataW.trod_int u1 g1
    obtain ⟨z2, q2, _, r2⟩ := DataW.trod_int u2 g2
    obtain ⟨z3, q3, _, r3⟩ := DataW.trod_int u3 g3
    obtain ⟨z4, q4, _, r4⟩ := DataW.trod_int u4 g4
    simp at q0 q1 q2 q3 q4
    subst q0; subst q1; subst q2; subst q3; subst q4
    obtain ⟨pa, pn, pc, rfl⟩ := slice_of_trod u5 g5
    obtain ⟨px, s1, s2, s3, s4, s5⟩ := rdi_of_trod2 u5 u6 c6 g5
    refine ⟨⟨z0, z1, z2, z3, z4, pa, pn, pc, px⟩, rfl, ⟨bounds_i64 r0, bounds_i64 r1, bounds_i64 r2, bounds_i64 r3, bounds_i64 r4⟩, s1, s2, s4, ?_⟩
    rcases s5 with s5 | ⟨es, sp, s6, s7⟩
    · exact .inl s5
    · exact .inr ⟨_, es, sp, rfl, by rw [← s6]; rfl, s7⟩
theorem ops_of_trod {t e ei : TypeId} {f0 f1 f2 f3 f4 f5 : Field} {fuel len cap : Nat} {A : Option Addr} {x : DataW H × List MemPlace} {ts : List TypeId} {ds : List (DataW H)} {j : Nat} (ht : P.underlying t = some (.slice e))
    (he : P.underlying e = some (.struct #[f0, f1, f2, f3, f4, f5])) (hone : Go.Deep.oneCellFields P #[f0, f1, f2, f3, f4, f5] = true) (hC : P.cellsOf e = 6)
    (u0 : P.underlying f0.type = some (.int .i64)) (u1 : P.underlying f1.type = some (.int .i64)) (u2 : P.underlying f2.type = some (.int .i64))
    (u3 : P.underlying f3.type = some (.int .i64)) (u4 : P.underlying f4.type = some (.int .i64)) (u5 : P.underlying f5.type = some (.slice ei)) (u6 : P.underlying ei = some (.int .i64)) (c6 : P.cellsOf ei = 1) (b6 : P.bytesOf ei = 8)
    (hsz : (DataW.weightsEach P ts ds).all (· ≤ reachBytes) = true) (hts : ts[j]? = some t) (hds : ds[j]? = some x.1)
    (h : DataW.trod enc P W base (fun _ => true) held fuel t (Value.slice A len cap).cells.toList = some x) : ∃ o, RdOps W W.heap.size A len o ∧ len ≤ cap ∧ cap ≤ maxLen := by
  rcases Go.Deep.open_slice ht h with ⟨hcs, _⟩ | ⟨ad, l, c, m, n, D, Pl, hcs, _, hl, hm, hmm, hxx, hx⟩
  · simp [Value.cells] at hcs
    obtain ⟨rfl, rfl, rfl⟩ := hcs
    exact ⟨fun _ => ⟨0, 0, 0, 0, 0, none, 0, 0, fun _ => 0⟩, fun j hj => absurd hj (by omega), by omega, by unfold maxLen; omega⟩
  · simp [Value.cells] at hcs
    obtain ⟨rfl, rfl, rfl⟩ := hcs
    simp at hmm
    have each : ∀ i, ∃ y : OpV, i < len → (W.cell? (ad.add (i * 6)) = some (.int .i64 y.k) ∧ W.cell? (ad.add (i * 6 + 1)) = some (.int .i64 y.d) ∧ W.cell? (ad.add (i * 6 + 2)) = some (.int .i64 y.a) ∧ W.cell? (ad.add (i * 6 + 3)) = some (.int .i64 y.f) ∧
        W.cell? (ad.add (i * 6 + 4)) = some (.int .i64 y.n) ∧ W.cell? (ad.add (i * 6 + 5)) = some (.slice y.pa y.pn y.pc)) ∧ (I64 y.k ∧ I64 y.d ∧ I64 y.a ∧ I64 y.f ∧ I64 y.n) ∧ PicksOk W W.heap.size y := by
      intro i
      by_cases hi : i < len
      · obtain ⟨cs', h1, h2⟩ := hx i (by omega)
        rw [hC] at h1
        obtain ⟨_, hlen, hcell⟩ := World.cells?_some h1
        obtain ⟨y, rfl, hb, g1, g2, g3, g4⟩ := op_of_trod he hone hlen u0 u1 u2 u3 u4 u5 u6 c6 h2
        have e0 := hcell 0 (by omega)
        have e1 := hcell 1 (by omega)
        have e2 := hcell 2 (by omega)
        have e3 := hcell 3 (by omega)
        have e4 := hcell 4 (by omega)
        have e5 := hcell 5 (by omega)
        rw [Go.Deep.add_add] at e0 e1 e2 e3 e4 e5
        refine ⟨y, fun _ => ⟨⟨by simpa using e0, by simpa using e1, by simpa using e2, by simpa using e3, by simpa using e4, by simpa using e5⟩, hb, g1, g2, g3, ?_⟩⟩
        rcases g4 with g4 | ⟨parts, es, sp, g5, g6, g7⟩
        · rw [g4]; omega
        · have := sized_field hsz hts (by rw [hds, hxx]) ht he (List.mem_map.2 ⟨i, List.mem_range.2 hi, g5⟩) (i := 5) rfl g6 u5
          rw [g7, b6] at this
          exact this
      · exact ⟨⟨0, 0, 0, 0, 0, none, 0, 0, fun _ => 0⟩, fun h => absurd h hi⟩
    obtain ⟨f, hf⟩ := Classical.skolem.1 each
    refine ⟨f, fun i hi => ?_, hl, hm⟩
    obtain ⟨⟨c0, c1, c2, c3, c4, c5⟩, hb, hp⟩ := hf i hi
    obtain ⟨b, s, spt⟩ := ad
    have hsp : spt = none := by
      have h2 := World.cell?_spot (hf 0 (by omega)).1.1
      simpa [Addr.add] using h2
    subst hsp
    rw [add_plain] at c0 c1 c2 c3 c4 c5
    exact ⟨b, s, rfl, block_lt_of_cell c0, ⟨c0, by rw [Nat.add_assoc]; exact c1, by rw [Nat.add_assoc]; exact c2, by rw [Nat.add_assoc]; exact c3, by rw [Nat.add_assoc]; exact c4, by rw [Nat.add_assoc]; exact c5⟩, hb, hp⟩
end
end Go.Proofs.Ytlbmeaioiiflkaa
