/-
  DERIVED. GIVEN WITH THE SEED: THE CARDS: each row of YtjhkoanjocdboabDoorRows.lean that lists a variable, with what it lists TIED to the program's text (the seventh form; the later family's looks); each row that meets fmt, with fmt's text TOLD by the authors' own Lean function (tested against real Go, not proved from fmt's source: count such statements apart). THE CARD IS WHAT COUNTS. Prove the row's statement (the work); the ties are given (YtjhkoanjocdboabDoorTie.lean); close each card by the builder's one call (the guide's Derived/Test/ToyasCard.lean, 'card_holds'). Laid BY PROGRAM, IN A SANDBOX (cutbox-door.mjs). By AI agents, Wed Nov 11 2026. No macro, syntax, notation, axiom, sorry.
-/
import Derived.Test.YtjhkoanjocdboabDoorRows
import GoSem.ClaimSeven
namespace Go.Proofs.YtjhkoanjocdboabDoor
namespace Rows

/-- THE TIED CARD OF 'braidlaw02.SumsNumbers'. -/
def sumsNumbersCard : Claim7 := { stood := { row := sumsNumbersRow, standIns := [], harness := (true, "70b1fe45610a2c84da0498b925eac751ce18bf751a6dd92e1a03a3e5fae8cfe1"), looks := false }, kinds := [], alts := [], laidByText := true, laidKinds := [.data, .data], laidTests := true, laidLooks := .later }
def SumsNumbersCardSaid : Prop := Claim7.holds Tryd.pinned (.plain (OpenSpec.ofChange sumsNumbersSpec)) sumsNumbersCard

/-- THE TIED CARD OF 'braidlaw02.SumsLong'. -/
def sumsLongCard : Claim7 := { stood := { row := sumsLongRow, standIns := [], harness := (true, "70b1fe45610a2c84da0498b925eac751ce18bf751a6dd92e1a03a3e5fae8cfe1"), looks := false }, kinds := [], alts := [], laidByText := true, laidKinds := [.data], laidTests := true, laidLooks := .later }
def SumsLongCardSaid : Prop := Claim7.holds Tryd.pinned (.plain (OpenSpec.ofChange sumsLongSpec)) sumsLongCard

/-- THE TIED CARD OF 'braidlaw02.SumsPieces'. -/
def sumsPiecesCard : Claim7 := { stood := { row := sumsPiecesRow, standIns := [], harness := (true, "70b1fe45610a2c84da0498b925eac751ce18bf751a6dd92e1a03a3e5fae8cfe1"), looks := false }, kinds := [], alts := [], laidByText := true, laidKinds := [.data], laidTests := true, laidLooks := .later }
def SumsPiecesCardSaid : Prop := Claim7.holds Tryd.pinned (.plain (OpenSpec.ofChange sumsPiecesSpec)) sumsPiecesCard

/-- THE TIED CARD OF 'braidlaw02.SumsMacs'. -/
def sumsMacsCard : Claim7 := { stood := { row := sumsMacsRow, standIns := [], harness := (true, "70b1fe45610a2c84da0498b925eac751ce18bf751a6dd92e1a03a3e5fae8cfe1"), looks := false }, kinds := [], alts := [], laidByText := true, laidKinds := [.data], laidTests := true, laidLooks := .later }
def SumsMacsCardSaid : Prop := Claim7.holds Tryd.pinned (.plain (OpenSpec.ofChange sumsMacsSpec)) sumsMacsCard

/-- THE TIED CARD OF 'braidlaw02.SumsKeys'. -/
def sumsKeysCard : Claim7 := { stood := { row := sumsKeysRow, standIns := [], harness := (true, "70b1fe45610a2c84da0498b925eac751ce18bf751a6dd92e1a03a3e5fae8cfe1"), looks := false }, kinds := [], alts := [], laidByText := true, laidKinds := [.data], laidTests := true, laidLooks := .later }
def SumsKeysCardSaid : Prop := Claim7.holds Tryd.pinned (.plain (OpenSpec.ofChange sumsKeysSpec)) sumsKeysCard

/-- THE SECOND FORM's CARD OF 'braidlaw02.SumsNumbers'. -/
def sumsNumbersUptoCard : Claim7 := { stood := { row := sumsNumbersUptoRow, standIns := [], harness := (true, "70b1fe45610a2c84da0498b925eac751ce18bf751a6dd92e1a03a3e5fae8cfe1"), looks := false }, kinds := [], alts := [], laidByText := true, laidKinds := [.data, .data], laidTests := true, laidLooks := .later }
def SumsNumbersUptoCardSaid : Prop := Claim7.holds Tryd.pinned (.plain (OpenSpec.upto sumsNumbersSpec)) sumsNumbersUptoCard

/-- THE SECOND FORM's CARD OF 'braidlaw02.SumsLong'. -/
def sumsLongUptoCard : Claim7 := { stood := { row := sumsLongUptoRow, standIns := [], harness := (true, "70b1fe45610a2c84da0498b925eac751ce18bf751a6dd92e1a03a3e5fae8cfe1"), looks := false }, kinds := [], alts := [], laidByText := true, laidKinds := [.data], laidTests := true, laidLooks := .later }
def SumsLongUptoCardSaid : Prop := Claim7.holds Tryd.pinned (.plain (OpenSpec.upto sumsLongSpec)) sumsLongUptoCard

/-- THE SECOND FORM's CARD OF 'braidlaw02.SumsPieces'. -/
def sumsPiecesUptoCard : Claim7 := { stood := { row := sumsPiecesUptoRow, standIns := [], harness := (true, "70b1fe45610a2c84da0498b925eac751ce18bf751a6dd92e1a03a3e5fae8cfe1"), looks := false }, kinds := [], alts := [], laidByText := true, laidKinds := [.data], laidTests := true, laidLooks := .later }
def SumsPiecesUptoCardSaid : Prop := Claim7.holds Tryd.pinned (.plain (OpenSpec.upto sumsPiecesSpec)) sumsPiecesUptoCard

/-- THE SECOND FORM's CARD OF 'braidlaw02.SumsMacs'. -/
def sumsMacsUptoCard : Claim7 := { stood := { row := sumsMacsUptoRow, standIns := [], harness := (true, "70b1fe45610a2c84da0498b925eac751ce18bf751a6dd92e1a03a3e5fae8cfe1"), looks := false }, kinds := [], alts := [], laidByText := true, laidKinds := [.data], laidTests := true, laidLooks := .later }
def SumsMacsUptoCardSaid : Prop := Claim7.holds Tryd.pinned (.plain (OpenSpec.upto sumsMacsSpec)) sumsMacsUptoCard

/-- THE SECOND FORM's CARD OF 'braidlaw02.SumsKeys'. -/
def sumsKeysUptoCard : Claim7 := { stood := { row := sumsKeysUptoRow, standIns := [], harness := (true, "70b1fe45610a2c84da0498b925eac751ce18bf751a6dd92e1a03a3e5fae8cfe1"), looks := false }, kinds := [], alts := [], laidByText := true, laidKinds := [.data], laidTests := true, laidLooks := .later }
def SumsKeysUptoCardSaid : Prop := Claim7.holds Tryd.pinned (.plain (OpenSpec.upto sumsKeysSpec)) sumsKeysUptoCard
end Rows
end Go.Proofs.YtjhkoanjocdboabDoor
