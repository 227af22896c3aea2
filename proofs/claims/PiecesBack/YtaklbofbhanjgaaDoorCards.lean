/-
  DERIVED. GIVEN WITH THE SEED: THE CARDS: each row of YtaklbofbhanjgaaDoorRows.lean that lists a variable, with what it lists TIED to the program's text (the seventh form; the later family's looks); each row that meets fmt, with fmt's text TOLD by the authors' own Lean function (tested against real Go, not proved from fmt's source: count such statements apart). THE CARD IS WHAT COUNTS. Prove the row's statement (the work); the ties are given (YtaklbofbhanjgaaDoorTie.lean); close each card by the builder's one call (the guide's Derived/Test/ToyasCard.lean, 'card_holds'). Laid BY PROGRAM, IN A SANDBOX (cutbox-door.mjs). By AI agents, Wed Nov 11 2026. No macro, syntax, notation, axiom, sorry.
-/
import Derived.Test.YtaklbofbhanjgaaDoorRows
import GoSem.ClaimSeven
namespace Go.Proofs.YtaklbofbhanjgaaDoor
namespace Rows

/-- THE TIED CARD OF 'braidlaw22.PiecesTree'. -/
def piecesTreeCard : Claim7 := { stood := { row := piecesTreeRow, standIns := [], harness := (true, "05a13913706b7a3cc91084187b8617e7f323f04ccdc6a4ea78841d08f4302594"), looks := false }, kinds := [], alts := [], laidByText := true, laidKinds := [.data], laidTests := true, laidLooks := .later }
def PiecesTreeCardSaid : Prop := Claim7.holds Tryd.pinned (.plain (OpenSpec.ofChange piecesTreeSpec)) piecesTreeCard

/-- THE TIED CARD OF 'braidlaw22.PiecesBack'. -/
def piecesBackCard : Claim7 := { stood := { row := piecesBackRow, standIns := [], harness := (true, "05a13913706b7a3cc91084187b8617e7f323f04ccdc6a4ea78841d08f4302594"), looks := false }, kinds := [], alts := [], laidByText := true, laidKinds := [.data, .data], laidTests := true, laidLooks := .later }
def PiecesBackCardSaid : Prop := Claim7.holds Tryd.pinned (.plain (OpenSpec.ofChange piecesBackSpec)) piecesBackCard

/-- THE TIED CARD OF 'braidlaw22.PiecesProved'. -/
def piecesProvedCard : Claim7 := { stood := { row := piecesProvedRow, standIns := [], harness := (true, "05a13913706b7a3cc91084187b8617e7f323f04ccdc6a4ea78841d08f4302594"), looks := false }, kinds := [], alts := [], laidByText := true, laidKinds := [.data], laidTests := true, laidLooks := .later }
def PiecesProvedCardSaid : Prop := Claim7.holds Tryd.pinned (.plain (OpenSpec.ofChange piecesProvedSpec)) piecesProvedCard

/-- THE TIED CARD OF 'braidlaw22.PiecesNobody'. -/
def piecesNobodyCard : Claim7 := { stood := { row := piecesNobodyRow, standIns := [], harness := (true, "05a13913706b7a3cc91084187b8617e7f323f04ccdc6a4ea78841d08f4302594"), looks := false }, kinds := [], alts := [], laidByText := true, laidKinds := [.data], laidTests := true, laidLooks := .later }
def PiecesNobodyCardSaid : Prop := Claim7.holds Tryd.pinned (.plain (OpenSpec.ofChange piecesNobodySpec)) piecesNobodyCard

/-- THE SECOND FORM's CARD OF 'braidlaw22.PiecesTree'. -/
def piecesTreeUptoCard : Claim7 := { stood := { row := piecesTreeUptoRow, standIns := [], harness := (true, "05a13913706b7a3cc91084187b8617e7f323f04ccdc6a4ea78841d08f4302594"), looks := false }, kinds := [], alts := [], laidByText := true, laidKinds := [.data], laidTests := true, laidLooks := .later }
def PiecesTreeUptoCardSaid : Prop := Claim7.holds Tryd.pinned (.plain (OpenSpec.upto piecesTreeSpec)) piecesTreeUptoCard

/-- THE SECOND FORM's CARD OF 'braidlaw22.PiecesBack'. -/
def piecesBackUptoCard : Claim7 := { stood := { row := piecesBackUptoRow, standIns := [], harness := (true, "05a13913706b7a3cc91084187b8617e7f323f04ccdc6a4ea78841d08f4302594"), looks := false }, kinds := [], alts := [], laidByText := true, laidKinds := [.data, .data], laidTests := true, laidLooks := .later }
def PiecesBackUptoCardSaid : Prop := Claim7.holds Tryd.pinned (.plain (OpenSpec.upto piecesBackSpec)) piecesBackUptoCard

/-- THE SECOND FORM's CARD OF 'braidlaw22.PiecesProved'. -/
def piecesProvedUptoCard : Claim7 := { stood := { row := piecesProvedUptoRow, standIns := [], harness := (true, "05a13913706b7a3cc91084187b8617e7f323f04ccdc6a4ea78841d08f4302594"), looks := false }, kinds := [], alts := [], laidByText := true, laidKinds := [.data], laidTests := true, laidLooks := .later }
def PiecesProvedUptoCardSaid : Prop := Claim7.holds Tryd.pinned (.plain (OpenSpec.upto piecesProvedSpec)) piecesProvedUptoCard

/-- THE SECOND FORM's CARD OF 'braidlaw22.PiecesNobody'. -/
def piecesNobodyUptoCard : Claim7 := { stood := { row := piecesNobodyUptoRow, standIns := [], harness := (true, "05a13913706b7a3cc91084187b8617e7f323f04ccdc6a4ea78841d08f4302594"), looks := false }, kinds := [], alts := [], laidByText := true, laidKinds := [.data], laidTests := true, laidLooks := .later }
def PiecesNobodyUptoCardSaid : Prop := Claim7.holds Tryd.pinned (.plain (OpenSpec.upto piecesNobodySpec)) piecesNobodyUptoCard
end Rows
end Go.Proofs.YtaklbofbhanjgaaDoor
