/-
  Maps keyed by what a cell is, as functions: what stands at each key. Conditions: the keys are below 2^62.
-/
import Derived.Test.YtpbojhjbjnoihaaRackMem
import Derived.Maps.OwnSet
import Derived.Maps.RangeWalk
import Derived.WalkArith
namespace Go.Proofs.Ytpbojhjbjnoihaa
set_option maxRecDepth 100000
open Go Go.RowKit
set_option linter.unusedVariables false
namespace Sp
theorem keyedI : Maps.Keyed Try.prog 64 := Maps.int_keyed Try.underlying64
/-- a key -/
def ikey (k : Nat) : Value := .int .i64 (k : Int)
theorem ikey_inj {k k' : Nat} (h : ikey k = ikey k') : k = k' := by
  unfold ikey at h
  injection h with _ h
  omega
def RVi (v : Value) : Option (DataW Value × List MemPlace) := some (.held v, [])
def ilit (k : Nat) : Lit := .int .i64 (k : Int)
theorem ikey_ok {k : Nat} (hk : k < 4611686018427387904) : keyOf Try.prog 64 (ikey k) = some (ilit k) := Maps.keyOf_int_mk Try.underlying64 (WalkArith.wf_i64 (by omega))
theorem ilit_inj {k k' : Nat} (h : ilit k = ilit k') : k = k' := by
  unfold ilit at h
  injection h with _ h
  omega
/-- block b is a map of at most n entries, F says what stands at each key -/
def MapI (w : World) (b n : Nat) (F : Nat → Option Value) : Prop :=
  ∃ D : DataW Value, w.ownsMap Try.prog 64 RVi b n D ∧ Maps.IsMap D ∧ (∀ k, k < 4611686018427387904 → ∀ zd, D.atKey (ilit k) zd = (F k).elim zd .held) ∧ ∀ l, Maps.has D l = true → ∃ k, k < 3 ∧ l = ilit k
section
variable {w w' : World} {b n : Nat} {F : Nat → Option Value}
theorem MapI.lt (h : MapI w b n F) : b < w.heap.size := by obtain ⟨D, h1, _⟩ := h; exact h1.lt
theorem MapI.mono (h : MapI w b n F) {n' : Nat} (hn : n ≤ n') : MapI w b n' F := by obtain ⟨D, h1, h2⟩ := h; exact ⟨D, h1.mono hn, h2⟩
theorem MapI.isMap (h : MapI w b n F) : ∃ es c, w.heap[b]? = some (.map es c) := by obtain ⟨D, ⟨es, c, h1, _⟩, _⟩ := h; exact ⟨es, c, h1⟩
theorem MapI.block (h : MapI w b n F) (hb : w'.heap[b]? = w.heap[b]?) : MapI w' b n F := by
  obtain ⟨D, ⟨es, c, h1, h2⟩, h3⟩ := h
  exact ⟨D, ⟨es, c, hb.trans h1, h2⟩, h3⟩
theorem MapI.drew (h : MapI w b n F) : MapI w.drew b n F := h
theorem MapI.drewN (h : MapI w b n F) (k : Nat) : MapI (w.drewN k) b n F := h
theorem MapI.alloc (h : MapI w b n F) (o : Obj) : MapI (w.alloc o) b n F := h.block (Below.heap_alloc w o b h.lt)
theorem MapI.setCell (h : MapI w b n F) {p : Addr} (hp : b ≠ p.block) (u : Value) : MapI (w.setCell p u) b n F := h.block (Below.heap_setCell w p u b hp)
theorem MapI.grown {row : Option Nat} (h : MapI w b n F) (hg : w.grownBy w' row) (hne : some b ≠ row) : MapI w' b n F := h.block (hg.block b h.lt hne)
theorem MapI.below {B : Nat} (h : MapI w b n F) (hb : Below B w w') (hB : b < B) : MapI w' b n F := h.block (hb.block b hB)
theorem MapI.ne_blk (h : MapI w b n F) {g : Nat} {t : TypeId} {cs : Array Value} (hg : Blk w g t cs) : b ≠ g := by
  obtain ⟨es, c, h1⟩ := h.isMap
  rintro rfl
  unfold Blk at hg
  rw [h1] at hg
  cases hg
theorem MapI.congr (h : MapI w b n F) {G : Nat → Option Value} (he : ∀ k, k < 4611686018427387904 → F k = G k) : MapI w b n G := by
  obtain ⟨D, h1, h2, h3, h4⟩ := h
  exact ⟨D, h1, h2, fun k hk zd => by rw [← he k hk]; exact h3 k hk zd, h4⟩
theorem MapI.made (w : World) : MapI (w.alloc (.map #[] 0)) w.heap.size 0 (fun _ => none) :=
  ⟨_, World.ownsMap_made w Try.prog 64 RVi, Maps.isMap_empty, fun k _ zd => rfl, fun l hl => by cases hl⟩
/-- 'm[k]' and 'v, ok := m[k]' -/
theorem MapI.look {t e : TypeId} (h : MapI w b n F) (ht : Try.prog.underlying t = some (.map 64 e)) {z : Value} (hz : (zeroValue e).run Try.prog w = .ok z w) {k : Nat} (hk : k < 4611686018427387904) (c : Bool) :
    (Instr.lookup t (.map (some b)) (ikey k) c).run Try.prog w = .ok (if c then .tuple #[(F k).getD z, .bool (F k).isSome] else (F k).getD z) w := by
  obtain ⟨D, ⟨es, cl, h1, h2, _, rfl⟩, _, h3, _⟩ := h
  rcases Maps.fit_look c keyedI ht hz h1 h2 (ikey_ok hk) with ⟨hrun, _, hat⟩ | ⟨e0, y, _, _, hrun, hRv, hat, _⟩
  · have e1 := (h3 k hk (.held (.int .i64 0))).symm.trans (hat _)
    have e2 := (h3 k hk (.held (.int .i64 1))).symm.trans (hat _)
    cases hF : F k with
    | none => rw [hrun]; rfl
    | some v =>
      rw [hF] at e1 e2
      simp only [Option.elim] at e1 e2
      rw [e1] at e2
      cases e2
  · have e1 := (h3 k hk (.held (.int .i64 0))).symm.trans (hat _)
    have e2 := (h3 k hk (.held (.int .i64 1))).symm.trans (hat _)
    injection hRv with hRv
    subst hRv
    cases hF : F k with
    | none =>
      rw [hF] at e1 e2
      simp only [Option.elim] at e1 e2
      rw [← e1] at e2
      cases e2
    | some v =>
      rw [hF] at e1
      simp only [Option.elim] at e1
      cases e1
      rw [hrun]
      rfl
def putI (F : Nat → Option Value) (k : Nat) (v : Value) (k' : Nat) : Option Value := if k' = k then some v else F k'
def delI (F : Nat → Option Value) (k : Nat) (k' : Nat) : Option Value := if k' = k then none else F k'
/-- 'm[k] = v' -/
theorem MapI.put {t e : TypeId} (h : MapI w b n F) (ht : Try.prog.underlying t = some (.map 64 e)) (hn : n < maxLen) {k : Nat} (hk3 : k < 3) (v : Value) :
    ∃ w', (Instr.mapUpdate t (.map (some b)) (ikey k) v).run Try.prog w = .ok () w' ∧ MapI w' b (n + 1) (putI F k v) ∧ w.grownBy w' (some b) ∧ w'.heap.size = w.heap.size := by
  have hk : k < 4611686018427387904 := by omega
  obtain ⟨D, h1, h2, h3, h4⟩ := h
  obtain ⟨es, cl, hb, F0, hs, hD⟩ := h1
  obtain ⟨es', clock', hrun, F', hput, _⟩ := Maps.fit_store (R' := RVi) keyedI ht hb F0 (Nat.lt_of_le_of_lt hs hn) (fun _ _ _ _ hz => hz) (ikey_ok hk) (show RVi v = some (.held v, []) from rfl)
  obtain ⟨w2, hrun2, r1, r2⟩ := World.ownsMap.update ⟨es, cl, hb, F0, hs, hD⟩ keyedI ht hn (ikey_ok hk) (show RVi v = some (.held v, []) from rfl)
  have hw : w2 = ChangeMaps.setBlock w b (.map es' clock') := by
    rw [hrun] at hrun2
    injection hrun2 with _ e
    exact e.symm
  refine ⟨w2, hrun2, ⟨_, r1, h2.put _ _, ?_, fun l hl => ?_⟩, r2, by rw [hw]; simp [ChangeMaps.setBlock]⟩
  rotate_left
  · by_cases e : l = ilit k
    · exact ⟨k, hk3, e⟩
    · rw [Maps.has_put_other e] at hl
      exact h4 l hl
  intro k' hk' zd
  unfold putI
  by_cases e : k' = k
  · subst e
    rw [if_pos rfl, Maps.atKey_put_same h2 (keyedI.key (ikey_ok hk))]
    rfl
  · rw [if_neg e, Maps.atKey_put_other (fun x => e (ilit_inj x))]
    exact h3 k' hk' zd
/-- 'delete(m, k)' -/
theorem MapI.drop {t e : TypeId} (h : MapI w b n F) (ht : Try.prog.underlying t = some (.map 64 e)) {k : Nat} (hk : k < 4611686018427387904) (ty : TypeId) :
    ∃ w', (Builtin.delete_ #[t, 64] ty #[.map (some b), ikey k]).run Try.prog w = .ok (.tuple #[]) w' ∧ MapI w' b n (delI F k) ∧ w.mapTurned w' b := by
  obtain ⟨D, h1, h2, h3, h4⟩ := h
  obtain ⟨w2, hrun2, r1, r2⟩ := World.ownsMap.drop h1 keyedI ht (ikey_ok hk) ty
  refine ⟨w2, hrun2, ⟨_, r1, h2.del _, ?_, fun l hl => ?_⟩, r2⟩
  rotate_left
  · by_cases e : l = ilit k
    · rw [e, Maps.has_del_same] at hl
      cases hl
    · rw [Maps.has_del_other e] at hl
      exact h4 l hl
  intro k' hk' zd
  unfold delI
  by_cases e : k' = k
  · subst e
    rw [if_pos rfl, Maps.atKey_del_same]
    rfl
  · rw [if_neg e, Maps.atKey_del_other (fun x => e (ilit_inj x))]
    exact h3 k' hk' zd
end
end Sp
end Go.Proofs.Ytpbojhjbjnoihaa
