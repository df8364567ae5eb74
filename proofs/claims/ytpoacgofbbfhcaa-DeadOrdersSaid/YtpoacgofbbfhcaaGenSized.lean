/-
  What comes in as a list of structs, with what its bytes are at most. Conditions: what the reading of an argument gives, and that it takes less than 2^47 bytes.
-/
import Derived.Test.YtpoacgofbbfhcaaGenArgs
import Derived.SizedLaws
namespace Go.Proofs.Ytpoacgofbbfhcaa
open Go Go.RowKit Go.ChangeShapes Go.WideShapes Go.ChangeAt
set_option maxRecDepth 100000
set_option linter.unusedVariables false
namespace Gr
section
variable {H : Type} {enc : TypeId × Value → H} {P : Program} {W : World} {base : Nat} {held : Bool}
/-- how long the reading of a slice is -/
theorem len_of_trod {t e : TypeId} {fuel len cap : Nat} {a : Option Addr} {x : DataW H × List MemPlace} (ht : P.underlying t = some (.slice e))
    (h : DataW.trod enc P W base (fun _ => true) held fuel t (Value.slice a len cap).cells.toList = some x) : cap = 0 ∨ ∃ es sp, x.1 = .slice es sp ∧ es.length + sp.length = cap := by
  rcases Go.Deep.open_slice ht h with ⟨hcs, _⟩ | ⟨ad, l, c, m, n, D, Pl, hcs, _, hl, hm, hmm, hx, _⟩
  · simp [Value.cells] at hcs
    obtain ⟨rfl, rfl, rfl⟩ := hcs
    exact .inl rfl
  · simp [Value.cells] at hcs
    obtain ⟨rfl, rfl, rfl⟩ := hcs
    simp at hmm
    refine .inr ⟨_, _, by rw [hx], ?_⟩
    simp
    omega
theorem reach_gen {ts : List TypeId} {ds : List (DataW H)} {j : Nat} {t e : TypeId} {d : DataW H} {cap bytes : Nat} (hsz : (DataW.weightsEach P ts ds).all (· ≤ reachBytes) = true) (ht : ts[j]? = some t) (hd : ds[j]? = some d) (hu : P.underlying t = some (.slice e)) (hb : P.bytesOf e = bytes)
    (hor : cap = 0 ∨ ∃ es sp, d = .slice es sp ∧ es.length + sp.length = cap) : cap * bytes ≤ 140737488351232 := by
  rcases hor with rfl | ⟨es, sp, rfl, rfl⟩
  · omega
  · have := sized_slice hsz ht hd hu
    rw [hb] at this
    simpa [reachBytes] using this
end
end Gr
end Go.Proofs.Ytpoacgofbbfhcaa
