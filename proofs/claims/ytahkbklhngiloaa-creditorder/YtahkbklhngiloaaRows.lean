/-
  No cell of these rows narrows 'for every input' (looked for: loops, veiled, ifaces, maps, wideKeys, modest, calm, conditions, laid).
  DERIVED. THE GIVEN ROWS OF THIS SEAT. 6 by the template 'for every input the law returns true; each argument reads behind the call as it read before'; 0 by the template 'total and deterministic' (their statements: YtahkbklhngiloaaTotals.lean).
  GIVEN WITH THE SEED: the statements are not yours to turn. If you find one false, say at which input.
  Laid BY PROGRAM, IN A SANDBOX (cutbox-rows.mjs): the forced cells as the released guide's own fill.sh prints them over the translation bbd055f1331608c4… (all of the seat's roots in one cut). By AI agents, Wed Nov 11 2026. No macro, syntax, notation, axiom, sorry.
-/
import Derived.Test.YtahkbklhngiloaaChecked
import GoSem.Claim
import GoSem.ClaimJoined
import GoSem.ClaimMapViews
import Derived.JoinedTies
import Derived.KernelRfl
namespace Go.Proofs.Ytahkbklhngiloaa
/- THE CELL 'sum', in the pinned program and in every row, IS THE sha256 OF THE DUMP (.gsa) THAT YtahkbklhngiloaaProg.lean LOADS. Nothing in Lean hashes anything: it is a label: what it is worth is what the hold of that sum in a sandbox is worth. -/
noncomputable def Try.pinned : Pinned := { name := "ytahkbklhngiloaa", sum := "bbd055f1331608c4134be2c765dd070ddbfe8314028244e7d3d26fbb6298766f", checked := Try.checked }
namespace Rows
def none {H : Type} : Left H := { results := [], args := [] }

/-- 'braidlaw18.CreditOrder': WHATEVER THE INPUT: true; the input reads as it did. -/
def creditOrderSpec : ChangeSpec := { name := "creditOrder", fn := fun _ => fun
  | [d1, d2, d3, d4] => { results := [.lit (.bool true)], args := [d1, d2, d3, d4] }
  | _ => none }
def creditOrderRow : OpenClaim := { program := "ytahkbklhngiloaa", sum := "bbd055f1331608c4134be2c765dd070ddbfe8314028244e7d3d26fbb6298766f", func := "braid/braidlaw18.CreditOrder", spec := "creditOrder", apart := false }
def CreditOrderSaid : Prop := creditOrderRow.holds Try.pinned (OpenSpec.ofChange creditOrderSpec)

/-- ITS FALSE NEIGHBOUR: 'it returns false'. Refute it at one input. -/
def creditOrderWrong : ChangeSpec := { name := "creditOrder", fn := fun _ => fun
  | [d1, d2, d3, d4] => { results := [.lit (.bool false)], args := [d1, d2, d3, d4] }
  | _ => none }
def CreditOrderWrongFalsely : Prop := creditOrderRow.holds Try.pinned (OpenSpec.ofChange creditOrderWrong)

/-- 'braidlaw18.CreditNobody': WHATEVER THE INPUT: true; the input reads as it did. -/
def creditNobodySpec : ChangeSpec := { name := "creditNobody", fn := fun _ => fun
  | [d1, d2] => { results := [.lit (.bool true)], args := [d1, d2] }
  | _ => none }
def creditNobodyRow : OpenClaim := { program := "ytahkbklhngiloaa", sum := "bbd055f1331608c4134be2c765dd070ddbfe8314028244e7d3d26fbb6298766f", func := "braid/braidlaw18.CreditNobody", spec := "creditNobody", recurses := true, apart := false }
def CreditNobodySaid : Prop := creditNobodyRow.holds Try.pinned (OpenSpec.ofChange creditNobodySpec)

/-- ITS FALSE NEIGHBOUR: 'it returns false'. Refute it at one input. -/
def creditNobodyWrong : ChangeSpec := { name := "creditNobody", fn := fun _ => fun
  | [d1, d2] => { results := [.lit (.bool false)], args := [d1, d2] }
  | _ => none }
def CreditNobodyWrongFalsely : Prop := creditNobodyRow.holds Try.pinned (OpenSpec.ofChange creditNobodyWrong)

/-- 'braidlaw18.CreditBounds': WHATEVER THE INPUT: true; the input reads as it did. -/
def creditBoundsSpec : ChangeSpec := { name := "creditBounds", fn := fun _ => fun
  | [d1, d2, d3, d4] => { results := [.lit (.bool true)], args := [d1, d2, d3, d4] }
  | _ => none }
def creditBoundsRow : OpenClaim := { program := "ytahkbklhngiloaa", sum := "bbd055f1331608c4134be2c765dd070ddbfe8314028244e7d3d26fbb6298766f", func := "braid/braidlaw18.CreditBounds", spec := "creditBounds", recurses := true, apart := false }
def CreditBoundsSaid : Prop := creditBoundsRow.holds Try.pinned (OpenSpec.ofChange creditBoundsSpec)

/-- ITS FALSE NEIGHBOUR: 'it returns false'. Refute it at one input. -/
def creditBoundsWrong : ChangeSpec := { name := "creditBounds", fn := fun _ => fun
  | [d1, d2, d3, d4] => { results := [.lit (.bool false)], args := [d1, d2, d3, d4] }
  | _ => none }
def CreditBoundsWrongFalsely : Prop := creditBoundsRow.holds Try.pinned (OpenSpec.ofChange creditBoundsWrong)

/-- 'braidlaw18.CreditMoves': WHATEVER THE INPUT: true; the input reads as it did. -/
def creditMovesSpec : ChangeSpec := { name := "creditMoves", fn := fun _ => fun
  | [d1, d2, d3, d4] => { results := [.lit (.bool true)], args := [d1, d2, d3, d4] }
  | _ => none }
def creditMovesRow : OpenClaim := { program := "ytahkbklhngiloaa", sum := "bbd055f1331608c4134be2c765dd070ddbfe8314028244e7d3d26fbb6298766f", func := "braid/braidlaw18.CreditMoves", spec := "creditMoves", recurses := true, apart := false }
def CreditMovesSaid : Prop := creditMovesRow.holds Try.pinned (OpenSpec.ofChange creditMovesSpec)

/-- ITS FALSE NEIGHBOUR: 'it returns false'. Refute it at one input. -/
def creditMovesWrong : ChangeSpec := { name := "creditMoves", fn := fun _ => fun
  | [d1, d2, d3, d4] => { results := [.lit (.bool false)], args := [d1, d2, d3, d4] }
  | _ => none }
def CreditMovesWrongFalsely : Prop := creditMovesRow.holds Try.pinned (OpenSpec.ofChange creditMovesWrong)

/-- 'braidlaw18.CreditMakes': WHATEVER THE INPUT: true; the input reads as it did. -/
def creditMakesSpec : ChangeSpec := { name := "creditMakes", fn := fun _ => fun
  | [d1, d2, d3] => { results := [.lit (.bool true)], args := [d1, d2, d3] }
  | _ => none }
def creditMakesRow : OpenClaim := { program := "ytahkbklhngiloaa", sum := "bbd055f1331608c4134be2c765dd070ddbfe8314028244e7d3d26fbb6298766f", func := "braid/braidlaw18.CreditMakes", spec := "creditMakes", recurses := true, apart := false }
def CreditMakesSaid : Prop := creditMakesRow.holds Try.pinned (OpenSpec.ofChange creditMakesSpec)

/-- ITS FALSE NEIGHBOUR: 'it returns false'. Refute it at one input. -/
def creditMakesWrong : ChangeSpec := { name := "creditMakes", fn := fun _ => fun
  | [d1, d2, d3] => { results := [.lit (.bool false)], args := [d1, d2, d3] }
  | _ => none }
def CreditMakesWrongFalsely : Prop := creditMakesRow.holds Try.pinned (OpenSpec.ofChange creditMakesWrong)

/-- 'braidlaw18.CreditTwo': WHATEVER THE INPUT: true; the input reads as it did. -/
def creditTwoSpec : ChangeSpec := { name := "creditTwo", fn := fun _ => fun
  | [d1, d2, d3] => { results := [.lit (.bool true)], args := [d1, d2, d3] }
  | _ => none }
def creditTwoRow : OpenClaim := { program := "ytahkbklhngiloaa", sum := "bbd055f1331608c4134be2c765dd070ddbfe8314028244e7d3d26fbb6298766f", func := "braid/braidlaw18.CreditTwo", spec := "creditTwo", recurses := true, apart := false }
def CreditTwoSaid : Prop := creditTwoRow.holds Try.pinned (OpenSpec.ofChange creditTwoSpec)

/-- ITS FALSE NEIGHBOUR: 'it returns false'. Refute it at one input. -/
def creditTwoWrong : ChangeSpec := { name := "creditTwo", fn := fun _ => fun
  | [d1, d2, d3] => { results := [.lit (.bool false)], args := [d1, d2, d3] }
  | _ => none }
def CreditTwoWrongFalsely : Prop := creditTwoRow.holds Try.pinned (OpenSpec.ofChange creditTwoWrong)

/- THE SECOND FORM. 'bulk': how many values and letters a reading holds, each counted each time it is reached (what is shared counts as often as it is met; a slice's spare places count too). A statement '..UptoSaid' is the law's where the arguments, and the package variables that the reading takes, are together of bulk at most 1048576: NARROWER than '..Said'. Prove '..Said' where nothing that the law and all that it calls make is longer than what came in: it says more and counts as full. Else prove '..UptoSaid'. A law counts once. -/
mutual
def uptoBulk {H : Type} : DataW H → Nat
  | .lit (.string bytes) => bytes.length + 1
  | .lit _ => 1
  | .nil => 1
  | .ptr d => uptoBulk d + 1
  | .slice elems spare => uptoBulkAll elems + uptoBulkAll spare + 1
  | .agg parts => uptoBulkAll parts + 1
  | .iface _ d => uptoBulk d + 1
  | .map entries => uptoBulkEntries entries + 1
  | .held _ => 1
def uptoBulkAll {H : Type} : List (DataW H) → Nat
  | [] => 0
  | d :: r => uptoBulk d + uptoBulkAll r
def uptoBulkEntries {H : Type} : List (Lit × DataW H) → Nat
  | [] => 0
  | x :: r => uptoBulkEntry x + uptoBulkEntries r
def uptoBulkEntry {H : Type} : Lit × DataW H → Nat
  | (.string bytes, d) => bytes.length + uptoBulk d + 1
  | (_, d) => uptoBulk d + 1
 end
def uptoSmall : (H : Type) → List (DataW H) → Bool := fun _ ds => decide (uptoBulkAll ds ≤ 1048576)
def OpenSpec.upto (s : _root_.Go.ChangeSpec) : _root_.Go.OpenSpec := { _root_.Go.OpenSpec.ofChange s with cond := some uptoSmall }

/-- 'braidlaw18.CreditOrder', WHERE WHAT IT READS IS OF BULK AT MOST 1048576: true; the input reads as it did. -/
def creditOrderUptoRow : OpenClaim := { program := "ytahkbklhngiloaa", sum := "bbd055f1331608c4134be2c765dd070ddbfe8314028244e7d3d26fbb6298766f", func := "braid/braidlaw18.CreditOrder", spec := "creditOrder", apart := false, narrowed := true }
def CreditOrderUptoSaid : Prop := creditOrderUptoRow.holds Try.pinned (OpenSpec.upto creditOrderSpec)

/-- 'braidlaw18.CreditNobody', WHERE WHAT IT READS IS OF BULK AT MOST 1048576: true; the input reads as it did. -/
def creditNobodyUptoRow : OpenClaim := { program := "ytahkbklhngiloaa", sum := "bbd055f1331608c4134be2c765dd070ddbfe8314028244e7d3d26fbb6298766f", func := "braid/braidlaw18.CreditNobody", spec := "creditNobody", recurses := true, apart := false, narrowed := true }
def CreditNobodyUptoSaid : Prop := creditNobodyUptoRow.holds Try.pinned (OpenSpec.upto creditNobodySpec)

/-- 'braidlaw18.CreditBounds', WHERE WHAT IT READS IS OF BULK AT MOST 1048576: true; the input reads as it did. -/
def creditBoundsUptoRow : OpenClaim := { program := "ytahkbklhngiloaa", sum := "bbd055f1331608c4134be2c765dd070ddbfe8314028244e7d3d26fbb6298766f", func := "braid/braidlaw18.CreditBounds", spec := "creditBounds", recurses := true, apart := false, narrowed := true }
def CreditBoundsUptoSaid : Prop := creditBoundsUptoRow.holds Try.pinned (OpenSpec.upto creditBoundsSpec)

/-- 'braidlaw18.CreditMoves', WHERE WHAT IT READS IS OF BULK AT MOST 1048576: true; the input reads as it did. -/
def creditMovesUptoRow : OpenClaim := { program := "ytahkbklhngiloaa", sum := "bbd055f1331608c4134be2c765dd070ddbfe8314028244e7d3d26fbb6298766f", func := "braid/braidlaw18.CreditMoves", spec := "creditMoves", recurses := true, apart := false, narrowed := true }
def CreditMovesUptoSaid : Prop := creditMovesUptoRow.holds Try.pinned (OpenSpec.upto creditMovesSpec)

/-- 'braidlaw18.CreditMakes', WHERE WHAT IT READS IS OF BULK AT MOST 1048576: true; the input reads as it did. -/
def creditMakesUptoRow : OpenClaim := { program := "ytahkbklhngiloaa", sum := "bbd055f1331608c4134be2c765dd070ddbfe8314028244e7d3d26fbb6298766f", func := "braid/braidlaw18.CreditMakes", spec := "creditMakes", recurses := true, apart := false, narrowed := true }
def CreditMakesUptoSaid : Prop := creditMakesUptoRow.holds Try.pinned (OpenSpec.upto creditMakesSpec)

/-- 'braidlaw18.CreditTwo', WHERE WHAT IT READS IS OF BULK AT MOST 1048576: true; the input reads as it did. -/
def creditTwoUptoRow : OpenClaim := { program := "ytahkbklhngiloaa", sum := "bbd055f1331608c4134be2c765dd070ddbfe8314028244e7d3d26fbb6298766f", func := "braid/braidlaw18.CreditTwo", spec := "creditTwo", recurses := true, apart := false, narrowed := true }
def CreditTwoUptoSaid : Prop := creditTwoUptoRow.holds Try.pinned (OpenSpec.upto creditTwoSpec)

end Rows
end Go.Proofs.Ytahkbklhngiloaa
