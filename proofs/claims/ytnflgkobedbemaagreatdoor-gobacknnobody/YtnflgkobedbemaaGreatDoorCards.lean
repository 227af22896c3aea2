/-
  DERIVED. GIVEN WITH THE SEED: THE CARDS: each row of YtnflgkobedbemaaGreatDoorRows.lean that lists a variable, with what it lists TIED to the program's text (the seventh form; the later family's looks); each row that meets fmt, with fmt's text TOLD by the authors' own Lean function (tested against real Go, not proved from fmt's source: count such statements apart). THE CARD IS WHAT COUNTS. Prove the row's statement (the work); the ties are given (YtnflgkobedbemaaGreatDoorTie.lean); close each card by the builder's one call (the guide's Derived/Test/ToyasCard.lean, 'card_holds'). Laid BY PROGRAM, IN A SANDBOX (cutbox-door.mjs). By AI agents, Wed Nov 11 2026. No macro, syntax, notation, axiom, sorry.
-/
import Derived.Test.YtnflgkobedbemaaGreatDoorRows
import GoSem.ClaimSeven
namespace Go.Proofs.YtnflgkobedbemaaGreatDoor
namespace Rows

/-- THE TIED CARD OF 'braidlaw12.GobacknMakes'. -/
def gobacknMakesCard : Claim7 := { stood := { row := gobacknMakesRow, standIns := [], harness := (true, "e051d39b2fc5c9c4a7e458b91e13177692a48b4f778be2bb1e2d24718e86ca5c"), looks := false }, kinds := [], alts := [], laidByText := true, laidKinds := [.data], laidTests := true, laidLooks := .later }
def GobacknMakesCardSaid : Prop := Claim7.holds Tryz.pinned (.plain (OpenSpec.ofChange gobacknMakesSpec)) gobacknMakesCard

/-- THE TIED CARD OF 'braidlaw12.GobacknNobody'. -/
def gobacknNobodyCard : Claim7 := { stood := { row := gobacknNobodyRow, standIns := [], harness := (true, "e051d39b2fc5c9c4a7e458b91e13177692a48b4f778be2bb1e2d24718e86ca5c"), looks := false }, kinds := [], alts := [], laidByText := true, laidKinds := [.data, .data, .data], laidTests := true, laidLooks := .later }
def GobacknNobodyCardSaid : Prop := Claim7.holds Tryz.pinned (.plain (OpenSpec.ofChange gobacknNobodySpec)) gobacknNobodyCard

/-- THE TIED CARD OF 'braidlaw12.GobacknStream'. -/
def gobacknStreamCard : Claim7 := { stood := { row := gobacknStreamRow, standIns := [], harness := (true, "e051d39b2fc5c9c4a7e458b91e13177692a48b4f778be2bb1e2d24718e86ca5c"), looks := false }, kinds := [], alts := [], laidByText := true, laidKinds := [.data, .data, .data], laidTests := true, laidLooks := .later }
def GobacknStreamCardSaid : Prop := Claim7.holds Tryz.pinned (.plain (OpenSpec.ofChange gobacknStreamSpec)) gobacknStreamCard

/-- THE TIED CARD OF 'braidlaw12.GobacknArrives'. -/
def gobacknArrivesCard : Claim7 := { stood := { row := gobacknArrivesRow, standIns := [], harness := (true, "e051d39b2fc5c9c4a7e458b91e13177692a48b4f778be2bb1e2d24718e86ca5c"), looks := false }, kinds := [], alts := [], laidByText := true, laidKinds := [.data, .data, .data], laidTests := true, laidLooks := .later }
def GobacknArrivesCardSaid : Prop := Claim7.holds Tryz.pinned (.plain (OpenSpec.ofChange gobacknArrivesSpec)) gobacknArrivesCard

/-- THE TIED CARD OF 'braidlaw12.GobacknDies'. -/
def gobacknDiesCard : Claim7 := { stood := { row := gobacknDiesRow, standIns := [], harness := (true, "e051d39b2fc5c9c4a7e458b91e13177692a48b4f778be2bb1e2d24718e86ca5c"), looks := false }, kinds := [], alts := [], laidByText := true, laidKinds := [.data, .data, .data], laidTests := true, laidLooks := .later }
def GobacknDiesCardSaid : Prop := Claim7.holds Tryz.pinned (.plain (OpenSpec.ofChange gobacknDiesSpec)) gobacknDiesCard

/-- THE TIED CARD OF 'braidlaw12.GobacknDeaf'. -/
def gobacknDeafCard : Claim7 := { stood := { row := gobacknDeafRow, standIns := [], harness := (true, "e051d39b2fc5c9c4a7e458b91e13177692a48b4f778be2bb1e2d24718e86ca5c"), looks := false }, kinds := [], alts := [], laidByText := true, laidKinds := [.data, .data, .data], laidTests := true, laidLooks := .later }
def GobacknDeafCardSaid : Prop := Claim7.holds Tryz.pinned (.plain (OpenSpec.ofChange gobacknDeafSpec)) gobacknDeafCard

/-- THE SECOND FORM's CARD OF 'braidlaw12.GobacknMakes'. -/
def gobacknMakesUptoCard : Claim7 := { stood := { row := gobacknMakesUptoRow, standIns := [], harness := (true, "e051d39b2fc5c9c4a7e458b91e13177692a48b4f778be2bb1e2d24718e86ca5c"), looks := false }, kinds := [], alts := [], laidByText := true, laidKinds := [.data], laidTests := true, laidLooks := .later }
def GobacknMakesUptoCardSaid : Prop := Claim7.holds Tryz.pinned (.plain (OpenSpec.upto gobacknMakesSpec)) gobacknMakesUptoCard

/-- THE SECOND FORM's CARD OF 'braidlaw12.GobacknNobody'. -/
def gobacknNobodyUptoCard : Claim7 := { stood := { row := gobacknNobodyUptoRow, standIns := [], harness := (true, "e051d39b2fc5c9c4a7e458b91e13177692a48b4f778be2bb1e2d24718e86ca5c"), looks := false }, kinds := [], alts := [], laidByText := true, laidKinds := [.data, .data, .data], laidTests := true, laidLooks := .later }
def GobacknNobodyUptoCardSaid : Prop := Claim7.holds Tryz.pinned (.plain (OpenSpec.upto gobacknNobodySpec)) gobacknNobodyUptoCard

/-- THE SECOND FORM's CARD OF 'braidlaw12.GobacknStream'. -/
def gobacknStreamUptoCard : Claim7 := { stood := { row := gobacknStreamUptoRow, standIns := [], harness := (true, "e051d39b2fc5c9c4a7e458b91e13177692a48b4f778be2bb1e2d24718e86ca5c"), looks := false }, kinds := [], alts := [], laidByText := true, laidKinds := [.data, .data, .data], laidTests := true, laidLooks := .later }
def GobacknStreamUptoCardSaid : Prop := Claim7.holds Tryz.pinned (.plain (OpenSpec.upto gobacknStreamSpec)) gobacknStreamUptoCard

/-- THE SECOND FORM's CARD OF 'braidlaw12.GobacknArrives'. -/
def gobacknArrivesUptoCard : Claim7 := { stood := { row := gobacknArrivesUptoRow, standIns := [], harness := (true, "e051d39b2fc5c9c4a7e458b91e13177692a48b4f778be2bb1e2d24718e86ca5c"), looks := false }, kinds := [], alts := [], laidByText := true, laidKinds := [.data, .data, .data], laidTests := true, laidLooks := .later }
def GobacknArrivesUptoCardSaid : Prop := Claim7.holds Tryz.pinned (.plain (OpenSpec.upto gobacknArrivesSpec)) gobacknArrivesUptoCard

/-- THE SECOND FORM's CARD OF 'braidlaw12.GobacknDies'. -/
def gobacknDiesUptoCard : Claim7 := { stood := { row := gobacknDiesUptoRow, standIns := [], harness := (true, "e051d39b2fc5c9c4a7e458b91e13177692a48b4f778be2bb1e2d24718e86ca5c"), looks := false }, kinds := [], alts := [], laidByText := true, laidKinds := [.data, .data, .data], laidTests := true, laidLooks := .later }
def GobacknDiesUptoCardSaid : Prop := Claim7.holds Tryz.pinned (.plain (OpenSpec.upto gobacknDiesSpec)) gobacknDiesUptoCard

/-- THE SECOND FORM's CARD OF 'braidlaw12.GobacknDeaf'. -/
def gobacknDeafUptoCard : Claim7 := { stood := { row := gobacknDeafUptoRow, standIns := [], harness := (true, "e051d39b2fc5c9c4a7e458b91e13177692a48b4f778be2bb1e2d24718e86ca5c"), looks := false }, kinds := [], alts := [], laidByText := true, laidKinds := [.data, .data, .data], laidTests := true, laidLooks := .later }
def GobacknDeafUptoCardSaid : Prop := Claim7.holds Tryz.pinned (.plain (OpenSpec.upto gobacknDeafSpec)) gobacknDeafUptoCard
end Rows
end Go.Proofs.YtnflgkobedbemaaGreatDoor
