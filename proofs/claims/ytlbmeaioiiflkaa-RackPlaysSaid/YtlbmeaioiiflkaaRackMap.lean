/-
  Maps keyed by a place (two numbers), as functions: what stands at each place. Conditions: the numbers of a place are below 2^62.
-/
import Derived.Test.YtlbmeaioiiflkaaRackMem
import Derived.Maps.OwnSet
import Derived.Maps.RangeWalk
import Derived.DeepKeys4
import Derived.WalkArith
namespace Go.Proofs.Ytlbmeaioiiflkaa
open Go.RowKit
set_option linter.unusedVariables false

theorem laidOut_ : laidOutB Try.prog = true := by kernel_rfl
theorem row_place : (54 : TypeId) < Try.prog.types.size := of_decide_eq_true (by kernel_rfl)
theorem wide_place : (match Try.prog.underlying 54 with | some (.array _ _) | some (.struct _) => true | _ => false) = true := by rw [Try.underlying54]
theorem law_place : WideMaps.KeyLaw Try.prog 54 := deep_law_laid laidOut_ (m := 2) (by omega) row_place (by kernel_rfl) wide_place
theorem keyed : Maps.Keyed Try.prog 54 := Maps.Keyed.of_law law_place

/-- A place. -/
def pkey (d a : Nat) : Value := .agg #[.int .i64 (d : Int), .int .i64 (a : Int)]
theorem pkey_inj {d a d' a' : Nat} (h : pkey d a = pkey d' a') : d = d' ∧ a = a' := by
  unfold pkey at h
  simp at h
  omega
def RVp (p : Value → Bool) (v : Value) : Option (DataW Value × List MemPlace) := if p v then some (.held v, []) else none
theorem RVp_of {p : Value → Bool} {v : Value} (h : p v = true) : RVp p v = some (.held v, []) := if_pos h
theorem RVp_inv {p : Value → Bool} {v : Value} {y : DataW Value × List MemPlace} (h : RVp p v = some y) : p v = true ∧ y = (.held v, []) := by
  unfold RVp at h
  split at h
  · rename_i hp
    injection h with h
    exact ⟨hp, h.symm⟩
  · cases h
def anyV (_ : Value) : Bool := true
theorem wf_nat {n : Nat} (h : n < 4611686018427387904) : (Lit.int .i64 (n : Int)).wf = true := WalkArith.wf_i64 (by omega)
noncomputable def klit (d a : Nat) : Lit := (keyOf Try.prog 54 (pkey d a)).getD (.bool false)
theorem key_ok {d a : Nat} (hd : d < 4611686018427387904) (ha : a < 4611686018427387904) : keyOf Try.prog 54 (pkey d a) = some (klit d a) := by
  have h : (keyOf Try.prog 54 (pkey d a)).isSome = true := by
    have hkt : Try.prog.keyType 54 = true := by kernel_rfl
    have hc : Try.prog.cellsOf 54 = 2 := by kernel_rfl
    have hc3 : Try.prog.cellsOf 3 = 1 := by kernel_rfl
    have w1 : (Lit.int .i64 (d : Int)).wf = true := wf_nat hd
    have w2 : (Lit.int .i64 (a : Int)).wf = true := wf_nat ha
    obtain ⟨m, hm⟩ : ∃ m, Try.prog.types.size = m + 1 := ⟨Try.prog.types.size.pred, (Nat.succ_pred_eq_of_pos (Nat.lt_of_le_of_lt (Nat.zero_le _) row_place)).symm⟩
    have hf : Value.formed Try.prog 54 (pkey d a) = true := by simp [pkey, Value.formed, Try.underlying54, hc]
    have hl : (Try.prog.keyLits (Try.prog.types.size + 1) 54 (pkey d a).cells.toList).isSome = true := by
      rw [hm]
      simp [pkey, Value.cells, Program.keyLits, Try.underlying54, Try.underlying3, hc, hc3, w1, w2]
    unfold keyOf
    rw [Try.underlying54]
    rw [if_pos (by rw [hkt, hf]; rfl)]
    rw [Option.isSome_map]
    exact hl
  unfold klit
  cases e : keyOf Try.prog 54 (pkey d a)
  · rw [e] at h; cases h
  · rfl
/-- every key is a place's -/
theorem key_inv {key : Value} {kl : Lit} (h : keyOf Try.prog 54 key = some kl) : ∃ i j : Int, key = .agg #[.int .i64 i, .int .i64 j] := by
  have hc : Try.prog.cellsOf 54 = 2 := by kernel_rfl
  have hc3 : Try.prog.cellsOf 3 = 1 := by kernel_rfl
  obtain ⟨m, hm⟩ : ∃ m, Try.prog.types.size = m + 1 := ⟨Try.prog.types.size.pred, (Nat.succ_pred_eq_of_pos (Nat.lt_of_le_of_lt (Nat.zero_le _) row_place)).symm⟩
  unfold keyOf at h
  rw [Try.underlying54] at h
  simp only at h
  split at h
  rotate_left
  · cases h
  rename_i hf
  simp only [Bool.and_eq_true] at hf
  cases key <;> simp [Value.formed, Try.underlying54, hc] at hf
  rename_i cs
  obtain ⟨l, hl⟩ : ∃ l, cs.toList = l := ⟨_, rfl⟩
  have hsz : l.length = 2 := by rw [← hl, Array.length_toList]; exact hf.2
  obtain ⟨x, y, rfl⟩ : ∃ x y, l = [x, y] := by
    match l, hsz with
    | [x, y], _ => exact ⟨x, y, rfl⟩
  have hcs : cs = #[x, y] := by apply Array.toList_inj.1; rw [hl]
  subst hcs
  rw [hm] at h
  simp [Value.cells, Program.keyLits, Try.underlying54, Try.underlying3, hc, hc3] at h
  cases x <;> try (simp at h; done)
  rename_i q i
  dsimp only at h
  by_cases hq : q = IntKind.i64 ∧ (Lit.int .i64 i).wf = true
  rotate_left
  · rw [if_neg hq] at h
    cases h
  rw [if_pos hq] at h
  obtain ⟨rfl, _⟩ := hq
  cases y <;> try (simp at h; done)
  rename_i q j
  by_cases hq : q = IntKind.i64 ∧ (Lit.int .i64 j).wf = true
  rotate_left
  · simp [hq] at h
  obtain ⟨rfl, _⟩ := hq
  exact ⟨i, j, rfl⟩
theorem klit_inj {d a d' a' : Nat} (hd : d < 4611686018427387904) (ha : a < 4611686018427387904) (hd' : d' < 4611686018427387904) (ha' : a' < 4611686018427387904) (h : klit d a = klit d' a') : d = d' ∧ a = a' := by
  have h1 := key_ok hd ha
  have h2 := key_ok hd' ha'
  rw [h] at h1
  exact pkey_inj (keyed.inj h1 h2)

/-- block b is a map of at most n entries, F says what stands at each place -/
def MapFp (p : Value → Bool) (w : World) (b n : Nat) (F : Nat → Nat → Option Value) : Prop :=
  ∃ D : DataW Value, w.ownsMap Try.prog 54 (RVp p) b n D ∧ Maps.IsMap D ∧ ∀ d a, d < 4611686018427387904 → a < 4611686018427387904 → ∀ zd, D.atKey (klit d a) zd = (F d a).elim zd .held

abbrev MapF := MapFp anyV
section
variable {okv : Value → Bool} {w w' : World} {b n : Nat} {F : Nat → Nat → Option Value}
theorem MapFp.lt (h : MapFp okv w b n F) : b < w.heap.size := by obtain ⟨D, h1, _⟩ := h; exact h1.lt
theorem MapFp.mono (h : MapFp okv w b n F) {n' : Nat} (hn : n ≤ n') : MapFp okv w b n' F := by obtain ⟨D, h1, h2⟩ := h; exact ⟨D, h1.mono hn, h2⟩
theorem MapFp.isMap (h : MapFp okv w b n F) : ∃ es c, w.heap[b]? = some (.map es c) := by obtain ⟨D, ⟨es, c, h1, _⟩, _⟩ := h; exact ⟨es, c, h1⟩
theorem MapFp.block (h : MapFp okv w b n F) (hb : w'.heap[b]? = w.heap[b]?) : MapFp okv w' b n F := by
  obtain ⟨D, ⟨es, c, h1, h2⟩, h3⟩ := h
  exact ⟨D, ⟨es, c, hb.trans h1, h2⟩, h3⟩
theorem MapFp.drew (h : MapFp okv w b n F) : MapFp okv w.drew b n F := h
theorem MapFp.drewN (h : MapFp okv w b n F) (k : Nat) : MapFp okv (w.drewN k) b n F := h
theorem MapFp.alloc (h : MapFp okv w b n F) (o : Obj) : MapFp okv (w.alloc o) b n F := h.block (Below.heap_alloc w o b h.lt)
theorem MapFp.setCell (h : MapFp okv w b n F) {p : Addr} (hp : b ≠ p.block) (u : Value) : MapFp okv (w.setCell p u) b n F := h.block (Below.heap_setCell w p u b hp)
theorem MapFp.grown {row : Option Nat} (h : MapFp okv w b n F) (hg : w.grownBy w' row) (hne : some b ≠ row) : MapFp okv w' b n F := h.block (hg.block b h.lt hne)
theorem MapFp.ne_blk (h : MapFp okv w b n F) {g : Nat} {t : TypeId} {cs : Array Value} (hg : Blk w g t cs) : b ≠ g := by
  obtain ⟨es, c, h1⟩ := h.isMap
  rintro rfl
  unfold Blk at hg
  rw [h1] at hg
  cases hg
theorem MapFp.congr (h : MapFp okv w b n F) {G : Nat → Nat → Option Value} (he : ∀ d a, d < 4611686018427387904 → a < 4611686018427387904 → F d a = G d a) : MapFp okv w b n G := by
  obtain ⟨D, h1, h2, h3⟩ := h
  exact ⟨D, h1, h2, fun d a hd ha zd => by rw [← he d a hd ha]; exact h3 d a hd ha zd⟩
theorem MapFp.made (w : World) : MapFp okv (w.alloc (.map #[] 0)) w.heap.size 0 (fun _ _ => none) :=
  ⟨_, World.ownsMap_made w Try.prog 54 (RVp okv), Maps.isMap_empty, fun d a _ _ zd => rfl⟩
/-- 'm[p]' and 'v, ok := m[p]' -/
theorem MapFp.look {t e : TypeId} (h : MapFp okv w b n F) (ht : Try.prog.underlying t = some (.map 54 e)) {z : Value} (hz : (zeroValue e).run Try.prog w = .ok z w) {d a : Nat} (hd : d < 4611686018427387904) (ha : a < 4611686018427387904) (c : Bool) :
    (Instr.lookup t (.map (some b)) (pkey d a) c).run Try.prog w = .ok (if c then .tuple #[(F d a).getD z, .bool (F d a).isSome] else (F d a).getD z) w := by
  obtain ⟨D, ⟨es, cl, h1, h2, _, rfl⟩, _, h3⟩ := h
  rcases Maps.fit_look c keyed ht hz h1 h2 (key_ok hd ha) with ⟨hrun, _, hat⟩ | ⟨e0, y, _, _, hrun, hRv, hat, _⟩
  · have e1 := (h3 d a hd ha (.held (.int .i64 0))).symm.trans (hat _)
    have e2 := (h3 d a hd ha (.held (.int .i64 1))).symm.trans (hat _)
    cases hF : F d a with
    | none => rw [hrun]; rfl
    | some v =>
      rw [hF] at e1 e2
      simp only [Option.elim] at e1 e2
      rw [e1] at e2
      cases e2
  · have e1 := (h3 d a hd ha (.held (.int .i64 0))).symm.trans (hat _)
    have e2 := (h3 d a hd ha (.held (.int .i64 1))).symm.trans (hat _)
    obtain ⟨_, rfl⟩ := RVp_inv hRv
    cases hF : F d a with
    | none =>
      rw [hF] at e1 e2
      simp only [Option.elim] at e1 e2
      rw [← e1] at e2
      cases e2
    | some v =>
      rw [hF] at e1
      simp only [Option.elim] at e1
      cases e1
      rw [hrun]
      rfl
def putF (F : Nat → Nat → Option Value) (d a : Nat) (v : Value) (d' a' : Nat) : Option Value := if d' = d ∧ a' = a then some v else F d' a'
/-- 'm[p] = v' -/
theorem MapFp.put {t e : TypeId} (h : MapFp okv w b n F) (ht : Try.prog.underlying t = some (.map 54 e)) (hn : n < maxLen) {d a : Nat} (hd : d < 4611686018427387904) (ha : a < 4611686018427387904) (v : Value) (hv : okv v = true) :
    ∃ w', (Instr.mapUpdate t (.map (some b)) (pkey d a) v).run Try.prog w = .ok () w' ∧ MapFp okv w' b (n + 1) (putF F d a v) ∧ w.grownBy w' (some b) ∧ w'.heap.size = w.heap.size := by
  obtain ⟨D, h1, h2, h3⟩ := h
  obtain ⟨es, cl, hb, F0, hs, hD⟩ := h1
  obtain ⟨es', clock', hrun, F', hput, _⟩ := Maps.fit_store (R' := RVp okv) keyed ht hb F0 (Nat.lt_of_le_of_lt hs hn) (fun _ _ _ _ hz => hz) (key_ok hd ha) (RVp_of hv)
  obtain ⟨w2, hrun2, r1, r2⟩ := World.ownsMap.update ⟨es, cl, hb, F0, hs, hD⟩ keyed ht hn (key_ok hd ha) (RVp_of hv)
  have hw : w2 = ChangeMaps.setBlock w b (.map es' clock') := by
    rw [hrun] at hrun2
    injection hrun2 with _ e
    exact e.symm
  refine ⟨w2, hrun2, ⟨_, r1, h2.put _ _, ?_⟩, r2, by rw [hw]; simp [ChangeMaps.setBlock]⟩
  intro d' a' hd' ha' zd
  unfold putF
  by_cases e : d' = d ∧ a' = a
  · obtain ⟨rfl, rfl⟩ := e
    rw [if_pos ⟨rfl, rfl⟩, Maps.atKey_put_same h2 (keyed.key (key_ok hd ha))]
    rfl
  · rw [if_neg e, Maps.atKey_put_other (fun x => e (klit_inj hd' ha' hd ha x))]
    exact h3 d' a' hd' ha' zd
theorem wpList_mapPut {ops : Array Oper} {rest : List Oper} {o : Oper} {ac : Act} {Q : Exit → Act → World → Prop}
    (hg : o.guard = none) (m x v : Operand) (t e : TypeId) (hop : o.op = Op.mapUpdate t m x v) (ht : Try.prog.underlying t = some (.map 54 e)) (b n : Nat) (F : Nat → Nat → Option Value)
    (hm : ac.eval m = .map (some b)) (h : MapFp okv w b n F) (hn : n < maxLen) (d a : Nat) (hd : d < 4611686018427387904) (ha : a < 4611686018427387904) (val : Value) (hx : ac.eval x = pkey d a) (hv : ac.eval v = val) (hpv : okv val = true)
    (hK : ∀ w', MapFp okv w' b (n + 1) (putF F d a val) → w.grownBy w' (some b) → w'.heap.size = w.heap.size → wpList Try.prog ops Q rest (ac.put o.dst undef) w') :
    wpList Try.prog ops Q (o :: rest) ac w := by
  refine wpList_plain hg fun K' hK' => ?_
  obtain ⟨w', hrun, r1, r2, r3⟩ := h.put ht hn hd ha val hpv
  unfold Oper.wp
  simp [execOp, hop, hm, hx, hv, hrun, Result.andThen]
  exact hK' _ _ (hK w' r1 r2 r3)
end
end Go.Proofs.Ytlbmeaioiiflkaa
