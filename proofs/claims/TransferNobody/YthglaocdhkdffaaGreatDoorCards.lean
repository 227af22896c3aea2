/-
  DERIVED. GIVEN WITH THE SEED: THE CARDS: each row of YthglaocdhkdffaaGreatDoorRows.lean that lists a variable, with what it lists TIED to the program's text (the seventh form; the later family's looks); each row that meets fmt, with fmt's text TOLD by the authors' own Lean function (tested against real Go, not proved from fmt's source: count such statements apart). THE CARD IS WHAT COUNTS. Prove the row's statement (the work); the ties are given (YthglaocdhkdffaaGreatDoorTie.lean); close each card by the builder's one call (the guide's Derived/Test/ToyasCard.lean, 'card_holds'). Laid BY PROGRAM, IN A SANDBOX (cutbox-door.mjs). By AI agents, Wed Nov 11 2026. No macro, syntax, notation, axiom, sorry.
-/
import Derived.Test.YthglaocdhkdffaaGreatDoorRows
import GoSem.ClaimSeven
namespace Go.Proofs.YthglaocdhkdffaaGreatDoor
namespace Rows

/-- THE TIED CARD OF 'braidlaw23.TransferNobody'. -/
def transferNobodyCard : Claim7 := { stood := { row := transferNobodyRow, standIns := [], harness := (true, "605049013241d7d61395ee06f997c9d219babc37afa90b2bcca229ada8a182d9"), looks := false }, kinds := [], alts := [], laidByText := true, laidKinds := [.data, .data], laidTests := true, laidLooks := .later }
def TransferNobodyCardSaid : Prop := Claim7.holds Tryz.pinned (.plain (OpenSpec.ofChange transferNobodySpec)) transferNobodyCard

/-- THE SECOND FORM's CARD OF 'braidlaw23.TransferNobody'. -/
def transferNobodyUptoCard : Claim7 := { stood := { row := transferNobodyUptoRow, standIns := [], harness := (true, "605049013241d7d61395ee06f997c9d219babc37afa90b2bcca229ada8a182d9"), looks := false }, kinds := [], alts := [], laidByText := true, laidKinds := [.data, .data], laidTests := true, laidLooks := .later }
def TransferNobodyUptoCardSaid : Prop := Claim7.holds Tryz.pinned (.plain (OpenSpec.upto transferNobodySpec)) transferNobodyUptoCard
end Rows
end Go.Proofs.YthglaocdhkdffaaGreatDoor
