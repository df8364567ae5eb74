/-
  DERIVED. GIVEN WITH THE SEED: THE CARDS: each row of YthioanenljpclaaGreatDoorRows.lean that lists a variable, with what it lists TIED to the program's text (the seventh form; the later family's looks); each row that meets fmt, with fmt's text TOLD by the authors' own Lean function (tested against real Go, not proved from fmt's source: count such statements apart). THE CARD IS WHAT COUNTS. Prove the row's statement (the work); the ties are given (YthioanenljpclaaGreatDoorTie.lean); close each card by the builder's one call (the guide's Derived/Test/ToyasCard.lean, 'card_holds'). Laid BY PROGRAM, IN A SANDBOX (cutbox-door.mjs). By AI agents, Wed Nov 11 2026. No macro, syntax, notation, axiom, sorry.
-/
import Derived.Test.YthioanenljpclaaGreatDoorRows
import GoSem.ClaimSeven
namespace Go.Proofs.YthioanenljpclaaGreatDoor
namespace Rows

/-- THE TIED CARD OF 'hoardlaw08.LabelPlays'. -/
def labelPlaysCard : Claim7 := { stood := { row := labelPlaysRow, standIns := [], harness := (true, "be1a0a32daf27d9ce15e0ff302cffbd5f666bdfdb7ffe4f8030716469fe655b4"), looks := false }, kinds := [], alts := [], laidByText := true, laidKinds := [.data], laidTests := true, laidLooks := .later }
def LabelPlaysCardSaid : Prop := Claim7.holds Tryz.pinned (.plain (OpenSpec.ofChange labelPlaysSpec)) labelPlaysCard

/-- THE SECOND FORM's CARD OF 'hoardlaw08.LabelPlays'. -/
def labelPlaysUptoCard : Claim7 := { stood := { row := labelPlaysUptoRow, standIns := [], harness := (true, "be1a0a32daf27d9ce15e0ff302cffbd5f666bdfdb7ffe4f8030716469fe655b4"), looks := false }, kinds := [], alts := [], laidByText := true, laidKinds := [.data], laidTests := true, laidLooks := .later }
def LabelPlaysUptoCardSaid : Prop := Claim7.holds Tryz.pinned (.plain (OpenSpec.upto labelPlaysSpec)) labelPlaysUptoCard
end Rows
end Go.Proofs.YthioanenljpclaaGreatDoor
