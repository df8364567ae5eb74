/-
  DERIVED. GIVEN WITH THE SEED: THE CARDS: each row of YtikenhcglbfgpaaDoorRows.lean that lists a variable, with what it lists TIED to the program's text (the seventh form; the later family's looks); each row that meets fmt, with fmt's text TOLD by the authors' own Lean function (tested against real Go, not proved from fmt's source: count such statements apart). THE CARD IS WHAT COUNTS. Prove the row's statement (the work); the ties are given (YtikenhcglbfgpaaDoorTie.lean); close each card by the builder's one call (the guide's Derived/Test/ToyasCard.lean, 'card_holds'). Laid BY PROGRAM, IN A SANDBOX (cutbox-door.mjs). By AI agents, Wed Nov 11 2026. No macro, syntax, notation, axiom, sorry.
-/
import Derived.Test.YtikenhcglbfgpaaDoorRows
import GoSem.ClaimSeven
namespace Go.Proofs.YtikenhcglbfgpaaDoor
namespace Rows

/-- THE TIED CARD OF 'hoardlaw13.IntentRooms'. -/
def intentRoomsCard : Claim7 := { stood := { row := intentRoomsRow, standIns := [], harness := (true, "754d7585f0f928c613727d7336aee60d3edcacdc692ea1f89a29c92db1b23865"), looks := false }, kinds := [], alts := [], laidByText := true, laidKinds := [.data], laidTests := true, laidLooks := .later }
def IntentRoomsCardSaid : Prop := Claim7.holds Tryd.pinned (.plain (OpenSpec.ofChange intentRoomsSpec)) intentRoomsCard

/-- THE TIED CARD OF 'hoardlaw13.IntentEdges'. -/
def intentEdgesCard : Claim7 := { stood := { row := intentEdgesRow, standIns := [], harness := (true, "754d7585f0f928c613727d7336aee60d3edcacdc692ea1f89a29c92db1b23865"), looks := false }, kinds := [], alts := [], laidByText := true, laidKinds := [.data], laidTests := true, laidLooks := .later }
def IntentEdgesCardSaid : Prop := Claim7.holds Tryd.pinned (.plain (OpenSpec.ofChange intentEdgesSpec)) intentEdgesCard

/-- THE SECOND FORM's CARD OF 'hoardlaw13.IntentRooms'. -/
def intentRoomsUptoCard : Claim7 := { stood := { row := intentRoomsUptoRow, standIns := [], harness := (true, "754d7585f0f928c613727d7336aee60d3edcacdc692ea1f89a29c92db1b23865"), looks := false }, kinds := [], alts := [], laidByText := true, laidKinds := [.data], laidTests := true, laidLooks := .later }
def IntentRoomsUptoCardSaid : Prop := Claim7.holds Tryd.pinned (.plain (OpenSpec.upto intentRoomsSpec)) intentRoomsUptoCard

/-- THE SECOND FORM's CARD OF 'hoardlaw13.IntentEdges'. -/
def intentEdgesUptoCard : Claim7 := { stood := { row := intentEdgesUptoRow, standIns := [], harness := (true, "754d7585f0f928c613727d7336aee60d3edcacdc692ea1f89a29c92db1b23865"), looks := false }, kinds := [], alts := [], laidByText := true, laidKinds := [.data], laidTests := true, laidLooks := .later }
def IntentEdgesUptoCardSaid : Prop := Claim7.holds Tryd.pinned (.plain (OpenSpec.upto intentEdgesSpec)) intentEdgesUptoCard
end Rows
end Go.Proofs.YtikenhcglbfgpaaDoor
