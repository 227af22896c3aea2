/-
  DERIVED. GIVEN WITH THE SEED: THE CARDS: each row of YtjhkoanjocdboaaDoorRows.lean that lists a variable, with what it lists TIED to the program's text (the seventh form; the later family's looks); each row that meets fmt, with fmt's text TOLD by the authors' own Lean function (tested against real Go, not proved from fmt's source: count such statements apart). THE CARD IS WHAT COUNTS. Prove the row's statement (the work); the ties are given (YtjhkoanjocdboaaDoorTie.lean); close each card by the builder's one call (the guide's Derived/Test/ToyasCard.lean, 'card_holds'). Laid BY PROGRAM, IN A SANDBOX (cutbox-door.mjs). By AI agents, Wed Nov 11 2026. No macro, syntax, notation, axiom, sorry.
-/
import Derived.Test.YtjhkoanjocdboaaDoorRows
import GoSem.ClaimSeven
namespace Go.Proofs.YtjhkoanjocdboaaDoor
namespace Rows

/-- THE TIED CARD OF 'braidlaw02.SumsShort'. -/
def sumsShortCard : Claim7 := { stood := { row := sumsShortRow, standIns := [], harness := (true, "acefd2d0f64a7d9e6a7399bbbb94e1565eaf423e16c53873ba923d3b9d458cba"), looks := false }, kinds := [], alts := [], laidByText := true, laidKinds := [.data], laidTests := true, laidLooks := .later }
def SumsShortCardSaid : Prop := Claim7.holds Tryd.pinned (.plain (OpenSpec.ofChange sumsShortSpec)) sumsShortCard

/-- THE TIED CARD OF 'braidlaw02.SumsNobody'. -/
def sumsNobodyCard : Claim7 := { stood := { row := sumsNobodyRow, standIns := [], harness := (true, "acefd2d0f64a7d9e6a7399bbbb94e1565eaf423e16c53873ba923d3b9d458cba"), looks := false }, kinds := [], alts := [], laidByText := true, laidKinds := [.data], laidTests := true, laidLooks := .later }
def SumsNobodyCardSaid : Prop := Claim7.holds Tryd.pinned (.plain (OpenSpec.ofChange sumsNobodySpec)) sumsNobodyCard

/-- THE TIED CARD OF 'braidlaw02.SumsBursts'. -/
def sumsBurstsCard : Claim7 := { stood := { row := sumsBurstsRow, standIns := [], harness := (true, "acefd2d0f64a7d9e6a7399bbbb94e1565eaf423e16c53873ba923d3b9d458cba"), looks := false }, kinds := [], alts := [], laidByText := true, laidKinds := [.data, .data], laidTests := true, laidLooks := .later }
def SumsBurstsCardSaid : Prop := Claim7.holds Tryd.pinned (.plain (OpenSpec.ofChange sumsBurstsSpec)) sumsBurstsCard

/-- THE TIED CARD OF 'braidlaw02.SumsLinear'. -/
def sumsLinearCard : Claim7 := { stood := { row := sumsLinearRow, standIns := [], harness := (true, "acefd2d0f64a7d9e6a7399bbbb94e1565eaf423e16c53873ba923d3b9d458cba"), looks := false }, kinds := [], alts := [], laidByText := true, laidKinds := [.data, .data], laidTests := true, laidLooks := .later }
def SumsLinearCardSaid : Prop := Claim7.holds Tryd.pinned (.plain (OpenSpec.ofChange sumsLinearSpec)) sumsLinearCard

/-- THE TIED CARD OF 'braidlaw02.SumsKeyed'. -/
def sumsKeyedCard : Claim7 := { stood := { row := sumsKeyedRow, standIns := [], harness := (true, "acefd2d0f64a7d9e6a7399bbbb94e1565eaf423e16c53873ba923d3b9d458cba"), looks := false }, kinds := [], alts := [], laidByText := true, laidKinds := [.data, .data], laidTests := true, laidLooks := .later }
def SumsKeyedCardSaid : Prop := Claim7.holds Tryd.pinned (.plain (OpenSpec.ofChange sumsKeyedSpec)) sumsKeyedCard

/-- THE TIED CARD OF 'braidlaw02.SumsCuts'. -/
def sumsCutsCard : Claim7 := { stood := { row := sumsCutsRow, standIns := [], harness := (true, "acefd2d0f64a7d9e6a7399bbbb94e1565eaf423e16c53873ba923d3b9d458cba"), looks := false }, kinds := [], alts := [], laidByText := true, laidKinds := [.data, .data], laidTests := true, laidLooks := .later }
def SumsCutsCardSaid : Prop := Claim7.holds Tryd.pinned (.plain (OpenSpec.ofChange sumsCutsSpec)) sumsCutsCard

/-- THE SECOND FORM's CARD OF 'braidlaw02.SumsShort'. -/
def sumsShortUptoCard : Claim7 := { stood := { row := sumsShortUptoRow, standIns := [], harness := (true, "acefd2d0f64a7d9e6a7399bbbb94e1565eaf423e16c53873ba923d3b9d458cba"), looks := false }, kinds := [], alts := [], laidByText := true, laidKinds := [.data], laidTests := true, laidLooks := .later }
def SumsShortUptoCardSaid : Prop := Claim7.holds Tryd.pinned (.plain (OpenSpec.upto sumsShortSpec)) sumsShortUptoCard

/-- THE SECOND FORM's CARD OF 'braidlaw02.SumsNobody'. -/
def sumsNobodyUptoCard : Claim7 := { stood := { row := sumsNobodyUptoRow, standIns := [], harness := (true, "acefd2d0f64a7d9e6a7399bbbb94e1565eaf423e16c53873ba923d3b9d458cba"), looks := false }, kinds := [], alts := [], laidByText := true, laidKinds := [.data], laidTests := true, laidLooks := .later }
def SumsNobodyUptoCardSaid : Prop := Claim7.holds Tryd.pinned (.plain (OpenSpec.upto sumsNobodySpec)) sumsNobodyUptoCard

/-- THE SECOND FORM's CARD OF 'braidlaw02.SumsBursts'. -/
def sumsBurstsUptoCard : Claim7 := { stood := { row := sumsBurstsUptoRow, standIns := [], harness := (true, "acefd2d0f64a7d9e6a7399bbbb94e1565eaf423e16c53873ba923d3b9d458cba"), looks := false }, kinds := [], alts := [], laidByText := true, laidKinds := [.data, .data], laidTests := true, laidLooks := .later }
def SumsBurstsUptoCardSaid : Prop := Claim7.holds Tryd.pinned (.plain (OpenSpec.upto sumsBurstsSpec)) sumsBurstsUptoCard

/-- THE SECOND FORM's CARD OF 'braidlaw02.SumsLinear'. -/
def sumsLinearUptoCard : Claim7 := { stood := { row := sumsLinearUptoRow, standIns := [], harness := (true, "acefd2d0f64a7d9e6a7399bbbb94e1565eaf423e16c53873ba923d3b9d458cba"), looks := false }, kinds := [], alts := [], laidByText := true, laidKinds := [.data, .data], laidTests := true, laidLooks := .later }
def SumsLinearUptoCardSaid : Prop := Claim7.holds Tryd.pinned (.plain (OpenSpec.upto sumsLinearSpec)) sumsLinearUptoCard

/-- THE SECOND FORM's CARD OF 'braidlaw02.SumsKeyed'. -/
def sumsKeyedUptoCard : Claim7 := { stood := { row := sumsKeyedUptoRow, standIns := [], harness := (true, "acefd2d0f64a7d9e6a7399bbbb94e1565eaf423e16c53873ba923d3b9d458cba"), looks := false }, kinds := [], alts := [], laidByText := true, laidKinds := [.data, .data], laidTests := true, laidLooks := .later }
def SumsKeyedUptoCardSaid : Prop := Claim7.holds Tryd.pinned (.plain (OpenSpec.upto sumsKeyedSpec)) sumsKeyedUptoCard

/-- THE SECOND FORM's CARD OF 'braidlaw02.SumsCuts'. -/
def sumsCutsUptoCard : Claim7 := { stood := { row := sumsCutsUptoRow, standIns := [], harness := (true, "acefd2d0f64a7d9e6a7399bbbb94e1565eaf423e16c53873ba923d3b9d458cba"), looks := false }, kinds := [], alts := [], laidByText := true, laidKinds := [.data, .data], laidTests := true, laidLooks := .later }
def SumsCutsUptoCardSaid : Prop := Claim7.holds Tryd.pinned (.plain (OpenSpec.upto sumsCutsSpec)) sumsCutsUptoCard
end Rows
end Go.Proofs.YtjhkoanjocdboaaDoor
