/-
  DERIVED. GIVEN WITH THE SEED: THE CARDS: each row of YtjpllcliehgnfaaDoorRows.lean that lists a variable, with what it lists TIED to the program's text (the seventh form; the later family's looks); each row that meets fmt, with fmt's text TOLD by the authors' own Lean function (tested against real Go, not proved from fmt's source: count such statements apart). THE CARD IS WHAT COUNTS. Prove the row's statement (the work); the ties are given (YtjpllcliehgnfaaDoorTie.lean); close each card by the builder's one call (the guide's Derived/Test/ToyasCard.lean, 'card_holds'). Laid BY PROGRAM, IN A SANDBOX (cutbox-door.mjs). By AI agents, Wed Nov 11 2026. No macro, syntax, notation, axiom, sorry.
-/
import Derived.Test.YtjpllcliehgnfaaDoorRows
import GoSem.ClaimSeven
namespace Go.Proofs.YtjpllcliehgnfaaDoor
namespace Rows

/-- THE TIED CARD OF 'braidlaw11.JoinTries'. -/
def joinTriesCard : Claim7 := { stood := { row := joinTriesRow, standIns := [], harness := (true, "d90a9ada5ba4e67d6bd6025e9728d897d297ba5146348f309bd2dbe0b73cb695"), looks := false }, kinds := [], alts := [], laidByText := true, laidKinds := [.data], laidTests := true, laidLooks := .later }
def JoinTriesCardSaid : Prop := Claim7.holds Tryd.pinned (.plain (OpenSpec.ofChange joinTriesSpec)) joinTriesCard

/-- THE TIED CARD OF 'braidlaw11.JoinLeft'. -/
def joinLeftCard : Claim7 := { stood := { row := joinLeftRow, standIns := [], harness := (true, "d90a9ada5ba4e67d6bd6025e9728d897d297ba5146348f309bd2dbe0b73cb695"), looks := false }, kinds := [], alts := [], laidByText := true, laidKinds := [.data], laidTests := true, laidLooks := .later }
def JoinLeftCardSaid : Prop := Claim7.holds Tryd.pinned (.plain (OpenSpec.ofChange joinLeftSpec)) joinLeftCard

/-- THE TIED CARD OF 'braidlaw11.JoinComes'. -/
def joinComesCard : Claim7 := { stood := { row := joinComesRow, standIns := [], harness := (true, "d90a9ada5ba4e67d6bd6025e9728d897d297ba5146348f309bd2dbe0b73cb695"), looks := false }, kinds := [], alts := [], laidByText := true, laidKinds := [.data], laidTests := true, laidLooks := .later }
def JoinComesCardSaid : Prop := Claim7.holds Tryd.pinned (.plain (OpenSpec.ofChange joinComesSpec)) joinComesCard

/-- THE TIED CARD OF 'braidlaw11.JoinNoOther'. -/
def joinNoOtherCard : Claim7 := { stood := { row := joinNoOtherRow, standIns := [], harness := (true, "d90a9ada5ba4e67d6bd6025e9728d897d297ba5146348f309bd2dbe0b73cb695"), looks := false }, kinds := [], alts := [], laidByText := true, laidKinds := [.data], laidTests := true, laidLooks := .later }
def JoinNoOtherCardSaid : Prop := Claim7.holds Tryd.pinned (.plain (OpenSpec.ofChange joinNoOtherSpec)) joinNoOtherCard

/-- THE TIED CARD OF 'braidlaw11.JoinOwn'. -/
def joinOwnCard : Claim7 := { stood := { row := joinOwnRow, standIns := [], harness := (true, "d90a9ada5ba4e67d6bd6025e9728d897d297ba5146348f309bd2dbe0b73cb695"), looks := false }, kinds := [], alts := [], laidByText := true, laidKinds := [.data], laidTests := true, laidLooks := .later }
def JoinOwnCardSaid : Prop := Claim7.holds Tryd.pinned (.plain (OpenSpec.ofChange joinOwnSpec)) joinOwnCard

/-- THE TIED CARD OF 'braidlaw11.JoinNumbers'. -/
def joinNumbersCard : Claim7 := { stood := { row := joinNumbersRow, standIns := [], harness := (true, "d90a9ada5ba4e67d6bd6025e9728d897d297ba5146348f309bd2dbe0b73cb695"), looks := false }, kinds := [], alts := [], laidByText := true, laidKinds := [.data], laidTests := true, laidLooks := .later }
def JoinNumbersCardSaid : Prop := Claim7.holds Tryd.pinned (.plain (OpenSpec.ofChange joinNumbersSpec)) joinNumbersCard

/-- THE SECOND FORM's CARD OF 'braidlaw11.JoinTries'. -/
def joinTriesUptoCard : Claim7 := { stood := { row := joinTriesUptoRow, standIns := [], harness := (true, "d90a9ada5ba4e67d6bd6025e9728d897d297ba5146348f309bd2dbe0b73cb695"), looks := false }, kinds := [], alts := [], laidByText := true, laidKinds := [.data], laidTests := true, laidLooks := .later }
def JoinTriesUptoCardSaid : Prop := Claim7.holds Tryd.pinned (.plain (OpenSpec.upto joinTriesSpec)) joinTriesUptoCard

/-- THE SECOND FORM's CARD OF 'braidlaw11.JoinLeft'. -/
def joinLeftUptoCard : Claim7 := { stood := { row := joinLeftUptoRow, standIns := [], harness := (true, "d90a9ada5ba4e67d6bd6025e9728d897d297ba5146348f309bd2dbe0b73cb695"), looks := false }, kinds := [], alts := [], laidByText := true, laidKinds := [.data], laidTests := true, laidLooks := .later }
def JoinLeftUptoCardSaid : Prop := Claim7.holds Tryd.pinned (.plain (OpenSpec.upto joinLeftSpec)) joinLeftUptoCard

/-- THE SECOND FORM's CARD OF 'braidlaw11.JoinComes'. -/
def joinComesUptoCard : Claim7 := { stood := { row := joinComesUptoRow, standIns := [], harness := (true, "d90a9ada5ba4e67d6bd6025e9728d897d297ba5146348f309bd2dbe0b73cb695"), looks := false }, kinds := [], alts := [], laidByText := true, laidKinds := [.data], laidTests := true, laidLooks := .later }
def JoinComesUptoCardSaid : Prop := Claim7.holds Tryd.pinned (.plain (OpenSpec.upto joinComesSpec)) joinComesUptoCard

/-- THE SECOND FORM's CARD OF 'braidlaw11.JoinNoOther'. -/
def joinNoOtherUptoCard : Claim7 := { stood := { row := joinNoOtherUptoRow, standIns := [], harness := (true, "d90a9ada5ba4e67d6bd6025e9728d897d297ba5146348f309bd2dbe0b73cb695"), looks := false }, kinds := [], alts := [], laidByText := true, laidKinds := [.data], laidTests := true, laidLooks := .later }
def JoinNoOtherUptoCardSaid : Prop := Claim7.holds Tryd.pinned (.plain (OpenSpec.upto joinNoOtherSpec)) joinNoOtherUptoCard

/-- THE SECOND FORM's CARD OF 'braidlaw11.JoinOwn'. -/
def joinOwnUptoCard : Claim7 := { stood := { row := joinOwnUptoRow, standIns := [], harness := (true, "d90a9ada5ba4e67d6bd6025e9728d897d297ba5146348f309bd2dbe0b73cb695"), looks := false }, kinds := [], alts := [], laidByText := true, laidKinds := [.data], laidTests := true, laidLooks := .later }
def JoinOwnUptoCardSaid : Prop := Claim7.holds Tryd.pinned (.plain (OpenSpec.upto joinOwnSpec)) joinOwnUptoCard

/-- THE SECOND FORM's CARD OF 'braidlaw11.JoinNumbers'. -/
def joinNumbersUptoCard : Claim7 := { stood := { row := joinNumbersUptoRow, standIns := [], harness := (true, "d90a9ada5ba4e67d6bd6025e9728d897d297ba5146348f309bd2dbe0b73cb695"), looks := false }, kinds := [], alts := [], laidByText := true, laidKinds := [.data], laidTests := true, laidLooks := .later }
def JoinNumbersUptoCardSaid : Prop := Claim7.holds Tryd.pinned (.plain (OpenSpec.upto joinNumbersSpec)) joinNumbersUptoCard
end Rows
end Go.Proofs.YtjpllcliehgnfaaDoor
