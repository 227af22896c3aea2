/-
  DERIVED. GIVEN WITH THE SEED: THE CARDS: each row of YtikeodogmnmneaaGreatDoorRows.lean that lists a variable, with what it lists TIED to the program's text (the seventh form; the later family's looks); each row that meets fmt, with fmt's text TOLD by the authors' own Lean function (tested against real Go, not proved from fmt's source: count such statements apart). THE CARD IS WHAT COUNTS. Prove the row's statement (the work); the ties are given (YtikeodogmnmneaaGreatDoorTie.lean); close each card by the builder's one call (the guide's Derived/Test/ToyasCard.lean, 'card_holds'). Laid BY PROGRAM, IN A SANDBOX (cutbox-door.mjs). By AI agents, Wed Nov 11 2026. No macro, syntax, notation, axiom, sorry.
-/
import Derived.Test.YtikeodogmnmneaaGreatDoorRows
import GoSem.ClaimSeven
namespace Go.Proofs.YtikeodogmnmneaaGreatDoor
namespace Rows

/-- THE TIED CARD OF 'braidlaw13.ConnFits'. -/
def connFitsCard : Claim7 := { stood := { row := connFitsRow, standIns := [], harness := (true, "a09fbcad5c3ec4b62c3f1facf3e31bbeb5e2d48b321efc04baabd1147da6ab8c"), looks := false }, kinds := [], alts := [], laidByText := true, laidKinds := [.data], laidTests := true, laidLooks := .later }
def ConnFitsCardSaid : Prop := Claim7.holds Tryz.pinned (.plain (OpenSpec.ofChange connFitsSpec)) connFitsCard

/-- THE TIED CARD OF 'braidlaw13.ConnNobody'. -/
def connNobodyCard : Claim7 := { stood := { row := connNobodyRow, standIns := [], harness := (true, "a09fbcad5c3ec4b62c3f1facf3e31bbeb5e2d48b321efc04baabd1147da6ab8c"), looks := false }, kinds := [], alts := [], laidByText := true, laidKinds := [.data, .data, .data], laidTests := true, laidLooks := .later }
def ConnNobodyCardSaid : Prop := Claim7.holds Tryz.pinned (.plain (OpenSpec.ofChange connNobodySpec)) connNobodyCard

/-- THE TIED CARD OF 'braidlaw13.ConnOrder'. -/
def connOrderCard : Claim7 := { stood := { row := connOrderRow, standIns := [], harness := (true, "a09fbcad5c3ec4b62c3f1facf3e31bbeb5e2d48b321efc04baabd1147da6ab8c"), looks := false }, kinds := [], alts := [], laidByText := true, laidKinds := [.data, .data, .data], laidTests := true, laidLooks := .later }
def ConnOrderCardSaid : Prop := Claim7.holds Tryz.pinned (.plain (OpenSpec.ofChange connOrderSpec)) connOrderCard

/-- THE TIED CARD OF 'braidlaw13.ConnDies'. -/
def connDiesCard : Claim7 := { stood := { row := connDiesRow, standIns := [], harness := (true, "a09fbcad5c3ec4b62c3f1facf3e31bbeb5e2d48b321efc04baabd1147da6ab8c"), looks := false }, kinds := [], alts := [], laidByText := true, laidKinds := [.data, .data, .data], laidTests := true, laidLooks := .later }
def ConnDiesCardSaid : Prop := Claim7.holds Tryz.pinned (.plain (OpenSpec.ofChange connDiesSpec)) connDiesCard

/-- THE TIED CARD OF 'braidlaw13.ConnAlike'. -/
def connAlikeCard : Claim7 := { stood := { row := connAlikeRow, standIns := [], harness := (true, "a09fbcad5c3ec4b62c3f1facf3e31bbeb5e2d48b321efc04baabd1147da6ab8c"), looks := false }, kinds := [], alts := [], laidByText := true, laidKinds := [.data, .data, .data], laidTests := true, laidLooks := .later }
def ConnAlikeCardSaid : Prop := Claim7.holds Tryz.pinned (.plain (OpenSpec.ofChange connAlikeSpec)) connAlikeCard

/-- THE TIED CARD OF 'braidlaw13.ConnSends'. -/
def connSendsCard : Claim7 := { stood := { row := connSendsRow, standIns := [], harness := (true, "a09fbcad5c3ec4b62c3f1facf3e31bbeb5e2d48b321efc04baabd1147da6ab8c"), looks := false }, kinds := [], alts := [], laidByText := true, laidKinds := [.data, .data, .data], laidTests := true, laidLooks := .later }
def ConnSendsCardSaid : Prop := Claim7.holds Tryz.pinned (.plain (OpenSpec.ofChange connSendsSpec)) connSendsCard

/-- THE SECOND FORM's CARD OF 'braidlaw13.ConnFits'. -/
def connFitsUptoCard : Claim7 := { stood := { row := connFitsUptoRow, standIns := [], harness := (true, "a09fbcad5c3ec4b62c3f1facf3e31bbeb5e2d48b321efc04baabd1147da6ab8c"), looks := false }, kinds := [], alts := [], laidByText := true, laidKinds := [.data], laidTests := true, laidLooks := .later }
def ConnFitsUptoCardSaid : Prop := Claim7.holds Tryz.pinned (.plain (OpenSpec.upto connFitsSpec)) connFitsUptoCard

/-- THE SECOND FORM's CARD OF 'braidlaw13.ConnNobody'. -/
def connNobodyUptoCard : Claim7 := { stood := { row := connNobodyUptoRow, standIns := [], harness := (true, "a09fbcad5c3ec4b62c3f1facf3e31bbeb5e2d48b321efc04baabd1147da6ab8c"), looks := false }, kinds := [], alts := [], laidByText := true, laidKinds := [.data, .data, .data], laidTests := true, laidLooks := .later }
def ConnNobodyUptoCardSaid : Prop := Claim7.holds Tryz.pinned (.plain (OpenSpec.upto connNobodySpec)) connNobodyUptoCard

/-- THE SECOND FORM's CARD OF 'braidlaw13.ConnOrder'. -/
def connOrderUptoCard : Claim7 := { stood := { row := connOrderUptoRow, standIns := [], harness := (true, "a09fbcad5c3ec4b62c3f1facf3e31bbeb5e2d48b321efc04baabd1147da6ab8c"), looks := false }, kinds := [], alts := [], laidByText := true, laidKinds := [.data, .data, .data], laidTests := true, laidLooks := .later }
def ConnOrderUptoCardSaid : Prop := Claim7.holds Tryz.pinned (.plain (OpenSpec.upto connOrderSpec)) connOrderUptoCard

/-- THE SECOND FORM's CARD OF 'braidlaw13.ConnDies'. -/
def connDiesUptoCard : Claim7 := { stood := { row := connDiesUptoRow, standIns := [], harness := (true, "a09fbcad5c3ec4b62c3f1facf3e31bbeb5e2d48b321efc04baabd1147da6ab8c"), looks := false }, kinds := [], alts := [], laidByText := true, laidKinds := [.data, .data, .data], laidTests := true, laidLooks := .later }
def ConnDiesUptoCardSaid : Prop := Claim7.holds Tryz.pinned (.plain (OpenSpec.upto connDiesSpec)) connDiesUptoCard

/-- THE SECOND FORM's CARD OF 'braidlaw13.ConnAlike'. -/
def connAlikeUptoCard : Claim7 := { stood := { row := connAlikeUptoRow, standIns := [], harness := (true, "a09fbcad5c3ec4b62c3f1facf3e31bbeb5e2d48b321efc04baabd1147da6ab8c"), looks := false }, kinds := [], alts := [], laidByText := true, laidKinds := [.data, .data, .data], laidTests := true, laidLooks := .later }
def ConnAlikeUptoCardSaid : Prop := Claim7.holds Tryz.pinned (.plain (OpenSpec.upto connAlikeSpec)) connAlikeUptoCard

/-- THE SECOND FORM's CARD OF 'braidlaw13.ConnSends'. -/
def connSendsUptoCard : Claim7 := { stood := { row := connSendsUptoRow, standIns := [], harness := (true, "a09fbcad5c3ec4b62c3f1facf3e31bbeb5e2d48b321efc04baabd1147da6ab8c"), looks := false }, kinds := [], alts := [], laidByText := true, laidKinds := [.data, .data, .data], laidTests := true, laidLooks := .later }
def ConnSendsUptoCardSaid : Prop := Claim7.holds Tryz.pinned (.plain (OpenSpec.upto connSendsSpec)) connSendsUptoCard
end Rows
end Go.Proofs.YtikeodogmnmneaaGreatDoor
