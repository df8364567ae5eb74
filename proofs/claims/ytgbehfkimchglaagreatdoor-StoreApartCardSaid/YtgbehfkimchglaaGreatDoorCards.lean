/-
  DERIVED. GIVEN WITH THE SEED: THE CARDS: each row of YtgbehfkimchglaaGreatDoorRows.lean that lists a variable, with what it lists TIED to the program's text (the seventh form; the later family's looks); each row that meets fmt, with fmt's text TOLD by the authors' own Lean function (tested against real Go, not proved from fmt's source: count such statements apart). THE CARD IS WHAT COUNTS. Prove the row's statement (the work); the ties are given (YtgbehfkimchglaaGreatDoorTie.lean); close each card by the builder's one call (the guide's Derived/Test/ToyasCard.lean, 'card_holds'). Laid BY PROGRAM, IN A SANDBOX (cutbox-door.mjs). By AI agents, Wed Nov 11 2026. No macro, syntax, notation, axiom, sorry.
-/
import Derived.Test.YtgbehfkimchglaaGreatDoorRows
import GoSem.ClaimSeven
namespace Go.Proofs.YtgbehfkimchglaaGreatDoor
namespace Rows

/-- THE TIED CARD OF 'hoardlaw09.StorePlays'. -/
def storePlaysCard : Claim7 := { stood := { row := storePlaysRow, standIns := [], harness := (true, "e57da272fa6d97e0e9e1812eeace926f776153a295f584572c4bf79a9cf60e3a"), looks := false }, kinds := [], alts := [], laidByText := true, laidKinds := [.data], laidTests := true, laidLooks := .later }
def StorePlaysCardSaid : Prop := Claim7.holds Tryz.pinned (.plain (OpenSpec.ofChange storePlaysSpec)) storePlaysCard

/-- THE TIED CARD OF 'hoardlaw09.StoreApart'. -/
def storeApartCard : Claim7 := { stood := { row := storeApartRow, standIns := [], harness := (true, "e57da272fa6d97e0e9e1812eeace926f776153a295f584572c4bf79a9cf60e3a"), looks := false }, kinds := [], alts := [], laidByText := true, laidKinds := [.data], laidTests := true, laidLooks := .later }
def StoreApartCardSaid : Prop := Claim7.holds Tryz.pinned (.plain (OpenSpec.ofChange storeApartSpec)) storeApartCard

/-- THE TIED CARD OF 'hoardlaw09.StoreRemembers'. -/
def storeRemembersCard : Claim7 := { stood := { row := storeRemembersRow, standIns := [], harness := (true, "e57da272fa6d97e0e9e1812eeace926f776153a295f584572c4bf79a9cf60e3a"), looks := false }, kinds := [], alts := [], laidByText := true, laidKinds := [.data], laidTests := true, laidLooks := .later }
def StoreRemembersCardSaid : Prop := Claim7.holds Tryz.pinned (.plain (OpenSpec.ofChange storeRemembersSpec)) storeRemembersCard

/-- THE SECOND FORM's CARD OF 'hoardlaw09.StorePlays'. -/
def storePlaysUptoCard : Claim7 := { stood := { row := storePlaysUptoRow, standIns := [], harness := (true, "e57da272fa6d97e0e9e1812eeace926f776153a295f584572c4bf79a9cf60e3a"), looks := false }, kinds := [], alts := [], laidByText := true, laidKinds := [.data], laidTests := true, laidLooks := .later }
def StorePlaysUptoCardSaid : Prop := Claim7.holds Tryz.pinned (.plain (OpenSpec.upto storePlaysSpec)) storePlaysUptoCard

/-- THE SECOND FORM's CARD OF 'hoardlaw09.StoreApart'. -/
def storeApartUptoCard : Claim7 := { stood := { row := storeApartUptoRow, standIns := [], harness := (true, "e57da272fa6d97e0e9e1812eeace926f776153a295f584572c4bf79a9cf60e3a"), looks := false }, kinds := [], alts := [], laidByText := true, laidKinds := [.data], laidTests := true, laidLooks := .later }
def StoreApartUptoCardSaid : Prop := Claim7.holds Tryz.pinned (.plain (OpenSpec.upto storeApartSpec)) storeApartUptoCard

/-- THE SECOND FORM's CARD OF 'hoardlaw09.StoreRemembers'. -/
def storeRemembersUptoCard : Claim7 := { stood := { row := storeRemembersUptoRow, standIns := [], harness := (true, "e57da272fa6d97e0e9e1812eeace926f776153a295f584572c4bf79a9cf60e3a"), looks := false }, kinds := [], alts := [], laidByText := true, laidKinds := [.data], laidTests := true, laidLooks := .later }
def StoreRemembersUptoCardSaid : Prop := Claim7.holds Tryz.pinned (.plain (OpenSpec.upto storeRemembersSpec)) storeRemembersUptoCard
end Rows
end Go.Proofs.YtgbehfkimchglaaGreatDoor
