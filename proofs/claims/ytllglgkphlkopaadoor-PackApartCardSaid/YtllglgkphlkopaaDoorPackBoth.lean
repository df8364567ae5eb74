/-
  What 'Encode' and 'Decode', and the document's, answer, in one form each. Conditions: what reads as items or bytes.
-/
import Derived.Test.YtllglgkphlkopaaDoorPackRefAll
import Derived.Test.YtllglgkphlkopaaDoorPackSame
namespace Go.Proofs.YtllglgkphlkopaaDoor
open Go Go.RowKit
set_option linter.unusedVariables false

def outS (l : List K.It) : ByteArray := if K.fault l = 0 then K.txt (K.encs l) else ⟨#[]⟩
def outL (L : List Nat) : List K.It := (K.decs 2000 L).getD []
def outE (L : List Nat) : Int := if (K.decs 2000 L).isSome then 0 else 2
theorem encode_sh (A : Option Addr) (l : List K.It) (c B : Nat) (w : World) (hx : RdI w B A l) (hB : B ≤ w.heap.size) (hg : ∀ x ∈ l, Good x) (hlc : l.length ≤ c) (hcm : c ≤ maxLen) :
    Calls Tryd.prog 5 #[.slice A l.length c] w fun e w' => ∃ A' n' c', e = .returned (.tuple #[.slice A' n' c', .int .i64 (K.fault l)]) ∧ (∀ W, Below w'.heap.size w' W → (convert 22 9 (.slice A' n' c')).run Tryd.prog W = .ok (.string (outS l)) W) ∧ Below w.heap.size w w' := by
  unfold outS
  by_cases hf : K.fault l = 0
  · rw [if_pos hf, hf]
    refine (encode_ok A l c B w hx hB hg hlc hcm hf).mono ?_
    rintro e w' ⟨v, rfl, ho, hl⟩
    obtain ⟨A', c', rfl, hr, _, _, _, _⟩ := ho.shape (K.encs_lt _)
    exact ⟨A', _, c', rfl, fun W hW => conv_lst (hr.below hW (Nat.le_refl _)), hl⟩
  · rw [if_neg hf]
    refine (encode_bad A l c B w hx hB hg hlc hcm hf).mono ?_
    rintro e w' ⟨rfl, hl⟩
    exact ⟨none, 0, 0, rfl, fun W _ => conv_zero W none 0, hl⟩
theorem DecOut.sh {L : List Nat} {base : Nat} {e : Ending} {w' : World} (h : DecOut L base e w') : ∃ A c, e = .returned (.tuple #[.slice A (outL L).length c, .int .i64 (outE L)]) ∧ RdI w' w'.heap.size A (outL L) ∧ (outL L).length ≤ c ∧ c ≤ maxLen := by
  unfold outL outE
  rcases h with ⟨h, rfl⟩ | ⟨l, v, h, rfl, ho⟩
  · rw [h]
    exact ⟨none, 0, rfl, fun j x hj => by simp at hj, by simp, by unfold maxLen; omega⟩
  · rw [h]
    obtain ⟨A, c, rfl, hlc, hcm, hr, _, _⟩ := ho.shape
    exact ⟨A, c, rfl, hr, hlc, hcm⟩
end Go.Proofs.YtllglgkphlkopaaDoor
