/-
  DERIVED. GIVEN WITH THE SEED: THE CARDS: each row of YtnmieabcaaoofaaDoorRows.lean that lists a variable, with what it lists TIED to the program's text (the seventh form; the later family's looks); each row that meets fmt, with fmt's text TOLD by the authors' own Lean function (tested against real Go, not proved from fmt's source: count such statements apart). THE CARD IS WHAT COUNTS. Prove the row's statement (the work); the ties are given (YtnmieabcaaoofaaDoorTie.lean); close each card by the builder's one call (the guide's Derived/Test/ToyasCard.lean, 'card_holds'). Laid BY PROGRAM, IN A SANDBOX (cutbox-door.mjs). By AI agents, Wed Nov 11 2026. No macro, syntax, notation, axiom, sorry.
-/
import Derived.Test.YtnmieabcaaoofaaDoorRows
import GoSem.ClaimSeven
namespace Go.Proofs.YtnmieabcaaoofaaDoor
namespace Rows

/-- THE TIED CARD OF 'hoardlaw05.PackSectors'. -/
def packSectorsCard : Claim7 := { stood := { row := packSectorsRow, standIns := [], harness := (true, "272f1cb4fae986f223a42fdbc31f018f4b64e8a38a4b3217e5c99a481f8dcbd7"), looks := false }, kinds := [], alts := [], laidByText := true, laidKinds := [.data], laidTests := true, laidLooks := .later }
def PackSectorsCardSaid : Prop := Claim7.holds Tryd.pinned (.plain (OpenSpec.ofChange packSectorsSpec)) packSectorsCard

/-- THE TIED CARD OF 'hoardlaw05.PackApart'. -/
def packApartCard : Claim7 := { stood := { row := packApartRow, standIns := [], harness := (true, "272f1cb4fae986f223a42fdbc31f018f4b64e8a38a4b3217e5c99a481f8dcbd7"), looks := false }, kinds := [], alts := [], laidByText := true, laidKinds := [.data], laidTests := true, laidLooks := .later }
def PackApartCardSaid : Prop := Claim7.holds Tryd.pinned (.plain (OpenSpec.ofChange packApartSpec)) packApartCard

/-- THE TIED CARD OF 'hoardlaw05.PackRooms'. -/
def packRoomsCard : Claim7 := { stood := { row := packRoomsRow, standIns := [], harness := (true, "272f1cb4fae986f223a42fdbc31f018f4b64e8a38a4b3217e5c99a481f8dcbd7"), looks := false }, kinds := [], alts := [], laidByText := true, laidKinds := [.data], laidTests := true, laidLooks := .later }
def PackRoomsCardSaid : Prop := Claim7.holds Tryd.pinned (.plain (OpenSpec.ofChange packRoomsSpec)) packRoomsCard

/-- THE SECOND FORM's CARD OF 'hoardlaw05.PackSectors'. -/
def packSectorsUptoCard : Claim7 := { stood := { row := packSectorsUptoRow, standIns := [], harness := (true, "272f1cb4fae986f223a42fdbc31f018f4b64e8a38a4b3217e5c99a481f8dcbd7"), looks := false }, kinds := [], alts := [], laidByText := true, laidKinds := [.data], laidTests := true, laidLooks := .later }
def PackSectorsUptoCardSaid : Prop := Claim7.holds Tryd.pinned (.plain (OpenSpec.upto packSectorsSpec)) packSectorsUptoCard

/-- THE SECOND FORM's CARD OF 'hoardlaw05.PackApart'. -/
def packApartUptoCard : Claim7 := { stood := { row := packApartUptoRow, standIns := [], harness := (true, "272f1cb4fae986f223a42fdbc31f018f4b64e8a38a4b3217e5c99a481f8dcbd7"), looks := false }, kinds := [], alts := [], laidByText := true, laidKinds := [.data], laidTests := true, laidLooks := .later }
def PackApartUptoCardSaid : Prop := Claim7.holds Tryd.pinned (.plain (OpenSpec.upto packApartSpec)) packApartUptoCard

/-- THE SECOND FORM's CARD OF 'hoardlaw05.PackRooms'. -/
def packRoomsUptoCard : Claim7 := { stood := { row := packRoomsUptoRow, standIns := [], harness := (true, "272f1cb4fae986f223a42fdbc31f018f4b64e8a38a4b3217e5c99a481f8dcbd7"), looks := false }, kinds := [], alts := [], laidByText := true, laidKinds := [.data], laidTests := true, laidLooks := .later }
def PackRoomsUptoCardSaid : Prop := Claim7.holds Tryd.pinned (.plain (OpenSpec.upto packRoomsSpec)) packRoomsUptoCard
end Rows
end Go.Proofs.YtnmieabcaaoofaaDoor
