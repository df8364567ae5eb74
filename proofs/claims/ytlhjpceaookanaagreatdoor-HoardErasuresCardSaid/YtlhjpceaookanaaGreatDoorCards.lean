/-
  DERIVED. GIVEN WITH THE SEED: THE CARDS: each row of YtlhjpceaookanaaGreatDoorRows.lean that lists a variable, with what it lists TIED to the program's text (the seventh form; the later family's looks); each row that meets fmt, with fmt's text TOLD by the authors' own Lean function (tested against real Go, not proved from fmt's source: count such statements apart). THE CARD IS WHAT COUNTS. Prove the row's statement (the work); the ties are given (YtlhjpceaookanaaGreatDoorTie.lean); close each card by the builder's one call (the guide's Derived/Test/ToyasCard.lean, 'card_holds'). Laid BY PROGRAM, IN A SANDBOX (cutbox-door.mjs). By AI agents, Wed Nov 11 2026. No macro, syntax, notation, axiom, sorry.
-/
import Derived.Test.YtlhjpceaookanaaGreatDoorRows
import GoSem.ClaimSeven
namespace Go.Proofs.YtlhjpceaookanaaGreatDoor
namespace Rows

/-- THE TIED CARD OF 'hoardlaw06.ArrayTails'. -/
def arrayTailsCard : Claim7 := { stood := { row := arrayTailsRow, standIns := [], harness := (true, "092b3a124fe6a453f3e0e2858659a61480170e131f58048bf8e4505bb309940e"), looks := false }, kinds := [], alts := [], laidByText := true, laidKinds := [.data], laidTests := true, laidLooks := .later }
def ArrayTailsCardSaid : Prop := Claim7.holds Tryz.pinned (.plain (OpenSpec.ofChange arrayTailsSpec)) arrayTailsCard

/-- THE TIED CARD OF 'hoardtop.HoardErasures'. -/
def hoardErasuresCard : Claim7 := { stood := { row := hoardErasuresRow, standIns := [], harness := (true, "092b3a124fe6a453f3e0e2858659a61480170e131f58048bf8e4505bb309940e"), looks := false }, kinds := [], alts := [], laidByText := true, laidKinds := [.data], laidTests := true, laidLooks := .later }
def HoardErasuresCardSaid : Prop := Claim7.holds Tryz.pinned (.plain (OpenSpec.ofChange hoardErasuresSpec)) hoardErasuresCard

/-- THE SECOND FORM's CARD OF 'hoardlaw06.ArrayTails'. -/
def arrayTailsUptoCard : Claim7 := { stood := { row := arrayTailsUptoRow, standIns := [], harness := (true, "092b3a124fe6a453f3e0e2858659a61480170e131f58048bf8e4505bb309940e"), looks := false }, kinds := [], alts := [], laidByText := true, laidKinds := [.data], laidTests := true, laidLooks := .later }
def ArrayTailsUptoCardSaid : Prop := Claim7.holds Tryz.pinned (.plain (OpenSpec.upto arrayTailsSpec)) arrayTailsUptoCard

/-- THE SECOND FORM's CARD OF 'hoardtop.HoardErasures'. -/
def hoardErasuresUptoCard : Claim7 := { stood := { row := hoardErasuresUptoRow, standIns := [], harness := (true, "092b3a124fe6a453f3e0e2858659a61480170e131f58048bf8e4505bb309940e"), looks := false }, kinds := [], alts := [], laidByText := true, laidKinds := [.data], laidTests := true, laidLooks := .later }
def HoardErasuresUptoCardSaid : Prop := Claim7.holds Tryz.pinned (.plain (OpenSpec.upto hoardErasuresSpec)) hoardErasuresUptoCard
end Rows
end Go.Proofs.YtlhjpceaookanaaGreatDoor
