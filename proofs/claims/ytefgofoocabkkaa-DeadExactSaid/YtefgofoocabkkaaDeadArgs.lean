/-
  What comes in as a line. Conditions: what the reading of an argument gives; each list takes less than 2^47 bytes.
-/
import Derived.Test.YtefgofoocabkkaaDeadDocDesM
import Derived.Test.YtefgofoocabkkaaGenSizedM
import Derived.Test.YtefgofoocabkkaaRows
import Derived.ProofKit
import Derived.OpenShut
import Derived.Deep.Slices
import Derived.Deep.Strs
import Derived.Deep.Fields
import Derived.SizedLaws
import Derived.Lib.SmallJoins
namespace Go.Proofs.Ytefgofoocabkkaa
open Go Go.RowKit Go.ChangeShapes Go.WideShapes Go.ChangeAt
set_option linter.unusedVariables false
set_option maxRecDepth 100000
namespace Dd
section
variable {H : Type} {enc : TypeId × Value → H} {P : Program} {W : World} {base : Nat} {held : Bool}
theorem bulk_pos (d : DataW H) : 1 ≤ Rows.uptoBulk d := by
  cases d with
  | lit l => cases l <;> simp [Rows.uptoBulk]
  | _ => simp [Rows.uptoBulk]
theorem bulk_len : ∀ ds : List (DataW H), ds.length ≤ Rows.uptoBulkAll ds
  | [] => Nat.zero_le _
  | d :: r => by
    have h1 := bulk_pos d
    have h2 := bulk_len r
    simp only [Rows.uptoBulkAll, List.length_cons]
    omega
theorem bulk_mem : ∀ (ds : List (DataW H)) (d : DataW H), d ∈ ds → Rows.uptoBulk d ≤ Rows.uptoBulkAll ds
  | [], d, h => by cases h
  | x :: r, d, h => by
    simp only [Rows.uptoBulkAll]
    rcases List.mem_cons.1 h with rfl | h
    · omega
    · have := bulk_mem r d h; omega
theorem weightsAll_mem {e : TypeId} : ∀ {l : List (DataW H)} {d : DataW H}, d ∈ l → ∀ n ∈ d.weights P e, n ∈ DataW.weightsAll P e l
  | d' :: r, d, hd, n, hn => by
    simp only [DataW.weightsAll, List.mem_append]
    rcases List.mem_cons.1 hd with rfl | h
    · exact Or.inl hn
    · exact Or.inr (weightsAll_mem h n hn)
/-- no list too long; where b holds, all of it small -/
def KOk (P : Program) (b : Bool) (t : TypeId) (d : DataW H) : Prop := (b = false → ∀ n ∈ d.weights P t, n ≤ reachBytes) ∧ (b = true → Rows.uptoBulk d ≤ 1048576)
theorem KOk.elem {b : Bool} {t e : TypeId} {es sp : List (DataW H)} {d : DataW H} (h : KOk P b t (.slice es sp)) (hu : P.underlying t = some (.slice e)) (hd : d ∈ es) : KOk P b e d :=
  ⟨fun hb n hn => h.1 hb n (by
    simp only [DataW.weights, hu, List.mem_cons, List.mem_append]
    exact Or.inr (Or.inl (weightsAll_mem hd n hn))), fun hb => by
    have h1 := h.2 hb
    have h2 := bulk_mem es d hd
    simp only [Rows.uptoBulk] at h1
    omega⟩
theorem KOk.len {b : Bool} {t e : TypeId} {es sp : List (DataW H)} (h : KOk P b t (.slice es sp)) (hu : P.underlying t = some (.slice e)) : (b = false → (es.length + sp.length) * P.bytesOf e ≤ reachBytes) ∧ (b = true → es.length ≤ 1048576) :=
  ⟨fun hb => h.1 hb _ (by simp [DataW.weights, hu]), fun hb => by
    have h1 := h.2 hb
    have h2 := bulk_len es
    simp only [Rows.uptoBulk] at h1
    omega⟩
theorem KOk.field {b : Bool} {t tf : TypeId} {fs : Array Field} {parts : List (DataW H)} {d : DataW H} {i : Nat} (h : KOk P b t (.agg parts)) (hs : P.underlying t = some (.struct fs)) (hf : (fs.toList.map (·.type))[i]? = some tf) (hp : parts[i]? = some d) : KOk P b tf d :=
  ⟨fun hb n hn => h.1 hb n (by
    simp only [DataW.weights, hs]
    exact DataW.weights_mem_each hf hp n hn), fun hb => by
    have h1 := h.2 hb
    have h2 := bulk_mem parts d (List.mem_of_getElem? hp)
    simp only [Rows.uptoBulk] at h1
    omega⟩
theorem genk_of_trod {α : Type} (b : Bool) (x0 : α) (cs : α → List Value) (q : α → Prop) {k : Nat} {t e : TypeId} {fuel len cap : Nat} {a : Option Addr} {x : DataW H × List MemPlace} (hk : ∀ x, (cs x).length = k) (hk0 : 0 < k) (ht : P.underlying t = some (.slice e)) (hC : P.cellsOf e = k)
    (hel : ∀ n (c : List Value) y, c.length = k → DataW.trod enc P W base (fun _ => true) held n e c = some y → KOk P b e y.1 → ∃ x : α, c = cs x ∧ q x)
    (hK : KOk P b t x.1) (h : DataW.trod enc P W base (fun _ => true) held fuel t (Value.slice a len cap).cells.toList = some x) :
    ∃ l : List α, len = l.length ∧ Gr.RdG k cs W a l ∧ (∀ y ∈ l, q y) ∧ l.length ≤ cap ∧ cap ≤ maxLen ∧ (a = none → cap = 0) ∧ (b = false → cap * P.bytesOf e ≤ reachBytes) ∧ (b = true → l.length ≤ 1048576) := by
  rcases Go.Deep.open_slice ht h with ⟨hcs, _⟩ | ⟨ad, l, c, m, n, D, Pl, hcs, _, hl, hm, hmm, hxx, hx⟩
  · simp [Value.cells] at hcs
    obtain ⟨rfl, rfl, rfl⟩ := hcs
    exact ⟨[], rfl, (fun j y hj => by simp at hj), (fun y hy => by simp at hy), by simp, by unfold maxLen; omega, fun _ => rfl, fun _ => by simp, fun _ => by simp⟩
  · simp [Value.cells] at hcs
    obtain ⟨rfl, rfl, rfl⟩ := hcs
    simp at hmm
    have hK2 := hK
    rw [hxx] at hK2
    have hln := hK2.len ht
    simp only [List.length_map, List.length_range] at hln
    have each : ∀ i, ∃ y : α, i < len → (∀ j u, (cs y)[j]? = some u → W.cell? ((ad.add (i * k)).add j) = some u) ∧ q y := by
      intro i
      by_cases hi : i < len
      · obtain ⟨cs', h1, h2⟩ := hx i (by omega)
        rw [hC] at h1
        obtain ⟨_, hlen, hcell⟩ := World.cells?_some h1
        obtain ⟨y, rfl, hq⟩ := hel _ _ _ hlen h2 (hK2.elem ht (List.mem_map.2 ⟨i, List.mem_range.2 hi, rfl⟩))
        refine ⟨y, fun _ => ⟨fun j u hu => ?_, hq⟩⟩
        have hj := (List.getElem?_eq_some_iff.1 hu).1
        rw [hk] at hj
        have h3 := hcell j hj
        rw [h3, hu]
      · exact ⟨x0, fun h => absurd h hi⟩
    obtain ⟨f, hf⟩ := Classical.skolem.1 each
    refine ⟨(List.range len).map f, by simp, ?_, ?_, by simpa using hl, hm, (fun e => by cases e), ?_, fun hb => by simpa using hln.2 hb⟩
    · intro j y hj
      have hjl : j < len := by have := (List.getElem?_eq_some_iff.1 hj).1; simpa using this
      have e : f j = y := by simpa [hjl] using hj
      have hc := (hf j hjl).1
      rw [e] at hc
      obtain ⟨b, o, sp⟩ := ad
      obtain ⟨u0, hu0⟩ : ∃ u0, (cs y)[0]? = some u0 := ⟨_, List.getElem?_eq_getElem (by rw [hk]; exact hk0)⟩
      have hsp : sp = none := by
        obtain ⟨u1, hu1⟩ : ∃ u1, (cs (f 0))[0]? = some u1 := ⟨_, List.getElem?_eq_getElem (by rw [hk]; exact hk0)⟩
        have h2 := World.cell?_spot ((hf 0 (by omega)).1 0 u1 hu1)
        simpa [Addr.add] using h2
      subst hsp
      have h0 := hc 0 u0 hu0
      simp only [add_plain] at h0 hc
      exact ⟨b, o, rfl, block_lt_of_cell h0, fun j u hu => hc j u hu⟩
    · intro y hy
      simp only [List.mem_map, List.mem_range] at hy
      obtain ⟨j, hj, rfl⟩ := hy
      exact (hf j hj).2
    · intro hb
      have h9 := hln.1 hb
      rw [show len + (m - len) = cap by omega] at h9
      exact h9
theorem bnd {z : Int} (h : (Lit.int .i64 z).wf = true) : Z64 z := bounds_i64 h
theorem pt_of_trod {e : TypeId} {f0 f1 f2 f3 : Field} {fuel : Nat} {c : List Value} {x : DataW H × List MemPlace} (he : P.underlying e = some (.struct #[f0, f1, f2, f3]))
    (hone : Go.Deep.oneCellFields P #[f0, f1, f2, f3] = true) (hlen : c.length = 4) (u0 : P.underlying f0.type = some (.int .i64)) (u1 : P.underlying f1.type = some (.int .i64)) (u2 : P.underlying f2.type = some (.int .i64)) (u3 : P.underlying f3.type = some .string)
    (h : DataW.trod enc P W base (fun _ => true) held fuel e c = some x) : ∃ p : Pt, c = csP p ∧ Z64 p.birth := by
  obtain ⟨xs, n, _, rfl, hl, hxs, hf⟩ := DataW.trod_struct he h
  obtain ⟨o0, k0⟩ := Go.Deep.hone_of hone 0 f0 rfl
  obtain ⟨o1, k1⟩ := Go.Deep.hone_of hone 1 f1 rfl
  obtain ⟨o2, k2⟩ := Go.Deep.hone_of hone 2 f2 rfl
  obtain ⟨o3, k3⟩ := Go.Deep.hone_of hone 3 f3 rfl
  match xs, hxs, c, hlen with
  | [x0, x1, x2, x3], _, [v0, v1, v2, v3], _ =>
    have g0 := hf 0 f0 rfl
    have g1 := hf 1 f1 rfl
    have g2 := hf 2 f2 rfl
    have g3 := hf 3 f3 rfl
    rw [o0, k0] at g0
    rw [o1, k1] at g1
    rw [o2, k2] at g2
    rw [o3, k3] at g3
    replace g0 : DataW.trod enc P W base (fun _ => true) held n f0.type [v0] = some x0 := g0
    replace g1 : DataW.trod enc P W base (fun _ => true) held n f1.type [v1] = some x1 := g1
    replace g2 : DataW.trod enc P W base (fun _ => true) held n f2.type [v2] = some x2 := g2
    replace g3 : DataW.trod enc P W base (fun _ => true) held n f3.type [v3] = some x3 := g3
    obtain ⟨z0, q0, _, r0⟩ := DataW.trod_int u0 g0
    obtain ⟨z1, q1, _, r1⟩ := DataW.trod_int u1 g1
    obtain ⟨z2, q2, _, r2⟩ := DataW.trod_int u2 g2
    obtain ⟨z3, q3, _, r3⟩ := DataW.trod_string u3 g3
    simp at q0 q1 q2 q3
    subst q0; subst q1; subst q2; subst q3
    exact ⟨⟨z0, z1, z2, z3⟩, rfl, bnd r2⟩
def Tight (L : Ln) : Prop := L.dead.length * 40 ≤ 140737488351232 ∧ L.snaps.length * 32 ≤ 140737488351232
theorem le_room {n : Nat} (h : n * 40 ≤ 140737488351232) : n * 40 ≤ room := by unfold room; omega
/-- what there is of the type of blocks -/
structure TyP (P : Program) (t e : TypeId) : Prop where
  ht : P.underlying t = some (.slice e)
  he : ∃ f0 f1 f2 f3 : Field, P.underlying e = some (.struct #[f0, f1, f2, f3]) ∧ Go.Deep.oneCellFields P #[f0, f1, f2, f3] = true ∧ P.underlying f0.type = some (.int .i64) ∧ P.underlying f1.type = some (.int .i64) ∧ P.underlying f2.type = some (.int .i64) ∧ P.underlying f3.type = some .string
  hC : P.cellsOf e = 4
  hb : P.bytesOf e = 40
def PtsOk (W : World) (b : Bool) (A : Option Addr) (cap : Nat) (l : List Pt) : Prop := RdP W A l ∧ (∀ p ∈ l, Z64 p.birth) ∧ (A = none → cap = 0) ∧ l.length * 40 ≤ 140737488351232 ∧ (b = true → l.length ≤ 1048576)
theorem pts_of_trod (b : Bool) {t e : TypeId} {fuel len cap : Nat} {a : Option Addr} {x : DataW H × List MemPlace} (T : TyP P t e) (hK : KOk P b t x.1)
    (h : DataW.trod enc P W base (fun _ => true) held fuel t (Value.slice a len cap).cells.toList = some x) : ∃ l : List Pt, len = l.length ∧ PtsOk W b a cap l := by
  obtain ⟨f0, f1, f2, f3, he, hone, u0, u1, u2, u3⟩ := T.he
  obtain ⟨l, h1, h2, h3, h4, h5, h6, h7, h8⟩ := genk_of_trod b (⟨0, 0, 0, ⟨#[]⟩⟩ : Pt) csP (fun p => Z64 p.birth) (fun _ => rfl) (by decide) T.ht T.hC (fun n c y hc hy _ => pt_of_trod he hone hc u0 u1 u2 u3 hy) hK h
  refine ⟨l, h1, h2, h3, h6, ?_, h8⟩
  rw [T.hb] at h7
  unfold reachBytes at h7
  cases b with
  | false => have := h7 rfl; omega
  | true => have := h8 rfl; omega
theorem slice_of_trod {t e : TypeId} {fuel : Nat} {v : Value} {x : DataW H × List MemPlace} (ht : P.underlying t = some (.slice e)) (h : DataW.trod enc P W base (fun _ => true) held fuel t [v] = some x) : ∃ a n c, v = .slice a n c := by
  rcases Go.Deep.open_slice ht h with ⟨hcs, _⟩ | ⟨ad, l, c, m, n, D, Pl, hcs, _⟩
  · simp at hcs; exact ⟨_, _, _, hcs⟩
  · simp at hcs; exact ⟨_, _, _, hcs⟩
/-- a snapshot with its list -/
def csW (x : SV × List Pt) : List Value := csV x.1
def SnOk (W : World) (b : Bool) (x : SV × List Pt) : Prop := Z64 x.1.txg ∧ x.1.n = x.2.length ∧ PtsOk W b x.1.A x.1.c x.2
structure TyS (P : Program) (t e tp ep : TypeId) : Prop where
  ht : P.underlying t = some (.slice e)
  he : ∃ f0 f1 : Field, P.underlying e = some (.struct #[f0, f1]) ∧ Go.Deep.oneCellFields P #[f0, f1] = true ∧ P.underlying f0.type = some (.int .i64) ∧ f1.type = tp
  hC : P.cellsOf e = 2
  hb : P.bytesOf e = 32
  tp : TyP P tp ep
theorem sn_of_trod (b : Bool) {t e tp ep : TypeId} {fuel : Nat} {c : List Value} {x : DataW H × List MemPlace} (T : TyS P t e tp ep) (hlen : c.length = 2) (hK : KOk P b e x.1)
    (h : DataW.trod enc P W base (fun _ => true) held fuel e c = some x) : ∃ y : SV × List Pt, c = csW y ∧ SnOk W b y := by
  obtain ⟨f0, f1, he, hone, u0, u1⟩ := T.he
  obtain ⟨xs, n, _, rfl, hl, hxs, hf⟩ := DataW.trod_struct he h
  obtain ⟨o0, k0⟩ := Go.Deep.hone_of hone 0 f0 rfl
  obtain ⟨o1, k1⟩ := Go.Deep.hone_of hone 1 f1 rfl
  match xs, hxs, c, hlen with
  | [x0, x1], _, [v0, v1], _ =>
    have g0 := hf 0 f0 rfl
    have g1 := hf 1 f1 rfl
    rw [o0, k0] at g0
    rw [o1, k1] at g1
    replace g0 : DataW.trod enc P W base (fun _ => true) held n f0.type [v0] = some x0 := g0
    replace g1 : DataW.trod enc P W base (fun _ => true) held n f1.type [v1] = some x1 := g1
    obtain ⟨z0, q0, _, r0⟩ := DataW.trod_int u0 g0
    simp at q0
    subst q0
    rw [u1] at g1
    obtain ⟨pa, pn, pc, rfl⟩ := slice_of_trod T.tp.ht g1
    have hK1 : KOk P b tp x1.1 := by
      have h1 := hK.field (i := 1) (tf := f1.type) (d := x1.1) he rfl rfl
      rw [u1] at h1
      exact h1
    obtain ⟨l, h1, h2⟩ := pts_of_trod b T.tp hK1 g1
    exact ⟨(⟨z0, pa, pn, pc⟩, l), rfl, bnd r0, h1, h2⟩
theorem line_of (b : Bool) {tl ts es tp ep : TypeId} {f0 f1 f2 : Field} {v : Value} {d : DataW H} {p : List MemPlace} (hs : P.underlying tl = some (.struct #[f0, f1, f2])) (hone : Go.Deep.oneCellFields P #[f0, f1, f2] = true) (hC : P.cellsOf tl = 3)
    (u0 : P.underlying f0.type = some (.int .i64)) (u1 : f1.type = ts) (u2 : f2.type = tp) (TS : TyS P ts es tp ep) (hK : KOk P b tl d) {r : Reach} {b0 : Nat} (hv : Value.okWide P W r b0 tl v)
    (h : DataW.Trod enc P W base (fun _ => true) held tl v d p) :
    ∃ (L : Ln) (A A' : Option Addr) (c c' : Nat), v = .agg #[.int .i64 L.base, .slice A L.snaps.length c, .slice A' L.dead.length c'] ∧ RdS W A L.snaps ∧ RdP W A' L.dead ∧ (A = none → c = 0) ∧ (A' = none → c' = 0) ∧ Fit L ∧ Tight L ∧ (b = true → Small L) := by
  obtain ⟨v0, v1, v2, y0, y1, y2, n, rfl, rfl, _, t0, t1, t2⟩ := Go.Joins.open_agg3 hs hone hC hv h
  obtain ⟨z0, q0, _, r0⟩ := DataW.trod_int u0 t0
  simp at q0
  subst q0
  rw [u1] at t1
  rw [u2] at t2
  obtain ⟨A, sn, c, rfl⟩ := slice_of_trod TS.ht t1
  obtain ⟨A', m, c', rfl⟩ := slice_of_trod TS.tp.ht t2
  have hK1 : KOk P b ts y1.1 := by
    have h1 := hK.field (i := 1) (tf := f1.type) (d := y1.1) hs rfl rfl
    rw [u1] at h1
    exact h1
  have hK2 : KOk P b tp y2.1 := by
    have h1 := hK.field (i := 2) (tf := f2.type) (d := y2.1) hs rfl rfl
    rw [u2] at h1
    exact h1
  obtain ⟨l, h1, h2, h3, h4, h5, h6, h7, h8⟩ := genk_of_trod b ((⟨0, none, 0, 0⟩, []) : SV × List Pt) csW (SnOk W b) (fun _ => rfl) (by decide) TS.ht TS.hC (fun n c y hc hy hk => sn_of_trod b TS hc hk hy) hK1 t1
  obtain ⟨D, g1, g2, g3, g4, g5, g6⟩ := pts_of_trod b TS.tp hK2 t2
  have hls : (l.map fun y => (⟨y.1.txg, y.2⟩ : Sn)).length = l.length := List.length_map _
  refine ⟨⟨z0, l.map fun y => ⟨y.1.txg, y.2⟩, D⟩, A, A', c, c', by rw [hls, ← h1, ← g1], fun i s hi => ?_, g2, h6, g4, ⟨?_, le_room g5, fun s hs' => ?_, bnd r0, fun s hs' => ?_, g3, fun s hs' => ?_⟩, ⟨g5, ?_⟩, fun hb => ⟨?_, ?_, fun s hs' => ?_⟩⟩
  · rw [List.getElem?_map] at hi
    obtain ⟨y, hy, rfl⟩ := Option.map_eq_some_iff.1 hi
    obtain ⟨bb, o, e1, e2, e3⟩ := h2 i y hy
    obtain ⟨_, e4, e5⟩ := h3 y (List.mem_of_getElem? hy)
    refine ⟨bb, o, y.1.A, y.1.c, e1, e2, ?_, ?_, e5.1, e5.2.2.1⟩
    · have := e3 0 _ rfl
      rw [Nat.add_zero] at this
      exact this
    · have := e3 1 (.slice y.1.A y.1.n y.1.c) rfl
      rw [e4] at this
      exact this
  · rw [hls]
    rw [TS.hb] at h7
    unfold reachBytes at h7
    unfold room
    cases b with
    | false => have := h7 rfl; omega
    | true => have := h8 rfl; omega
  · obtain ⟨y, hy, rfl⟩ := List.mem_map.1 hs'
    exact le_room (h3 y hy).2.2.2.2.2.1
  · obtain ⟨y, hy, rfl⟩ := List.mem_map.1 hs'
    exact (h3 y hy).1
  · obtain ⟨y, hy, rfl⟩ := List.mem_map.1 hs'
    exact (h3 y hy).2.2.2.1
  · rw [hls]
    rw [TS.hb] at h7
    unfold reachBytes at h7
    cases b with
    | false => have := h7 rfl; omega
    | true => have := h8 rfl; omega
  · rw [hls]; have := h8 hb; omega
  · have := g6 hb; show D.length ≤ _; omega
  · obtain ⟨y, hy, rfl⟩ := List.mem_map.1 hs'
    have := (h3 y hy).2.2.2.2.2.2 hb
    show y.2.length ≤ _
    omega
end
end Dd
end Go.Proofs.Ytefgofoocabkkaa
