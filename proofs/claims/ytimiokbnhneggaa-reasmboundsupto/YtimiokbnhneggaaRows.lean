/-
  No cell of these rows narrows 'for every input' (looked for: loops, veiled, ifaces, maps, wideKeys, modest, calm, conditions, laid).
  DERIVED. THE GIVEN ROWS OF THIS SEAT. 6 by the template 'for every input the law returns true; each argument reads behind the call as it read before'; 0 by the template 'total and deterministic' (their statements: YtimiokbnhneggaaTotals.lean).
  GIVEN WITH THE SEED: the statements are not yours to turn. If you find one false, say at which input.
  Laid BY PROGRAM, IN A SANDBOX (cutbox-rows.mjs): the forced cells as the released guide's own fill.sh prints them over the translation 4a18019b919cd092… (all of the seat's roots in one cut). By AI agents, Wed Nov 11 2026. No macro, syntax, notation, axiom, sorry.
-/
import Derived.Test.YtimiokbnhneggaaChecked
import GoSem.Claim
import GoSem.ClaimJoined
import GoSem.ClaimMapViews
import Derived.JoinedTies
import Derived.KernelRfl
namespace Go.Proofs.Ytimiokbnhneggaa
/- THE CELL 'sum', in the pinned program and in every row, IS THE sha256 OF THE DUMP (.gsa) THAT YtimiokbnhneggaaProg.lean LOADS. Nothing in Lean hashes anything: it is a label: what it is worth is what the hold of that sum in a sandbox is worth. -/
noncomputable def Try.pinned : Pinned := { name := "ytimiokbnhneggaa", sum := "4a18019b919cd092b3cf642dbc6b3b7dc12758bae0c3d6897fd8e44cf4900c4d", checked := Try.checked }
namespace Rows
def none {H : Type} : Left H := { results := [], args := [] }

/-- 'braidlaw08.ReasmFirst': WHATEVER THE INPUT: true; the input reads as it did. -/
def reasmFirstSpec : ChangeSpec := { name := "reasmFirst", fn := fun _ => fun
  | [d1, d2, d3] => { results := [.lit (.bool true)], args := [d1, d2, d3] }
  | _ => none }
def reasmFirstRow : OpenClaim := { program := "ytimiokbnhneggaa", sum := "4a18019b919cd092b3cf642dbc6b3b7dc12758bae0c3d6897fd8e44cf4900c4d", func := "braid/braidlaw08.ReasmFirst", spec := "reasmFirst", inPlace := ["slices.overlaps[braid/api.Range]"], unfollowed := true, recurses := true, apart := false }
def ReasmFirstSaid : Prop := reasmFirstRow.holds Try.pinned (OpenSpec.ofChange reasmFirstSpec)

/-- ITS FALSE NEIGHBOUR: 'it returns false'. Refute it at one input. -/
def reasmFirstWrong : ChangeSpec := { name := "reasmFirst", fn := fun _ => fun
  | [d1, d2, d3] => { results := [.lit (.bool false)], args := [d1, d2, d3] }
  | _ => none }
def ReasmFirstWrongFalsely : Prop := reasmFirstRow.holds Try.pinned (OpenSpec.ofChange reasmFirstWrong)

/-- 'braidlaw08.ReasmMakes': WHATEVER THE INPUT: true; the input reads as it did. -/
def reasmMakesSpec : ChangeSpec := { name := "reasmMakes", fn := fun _ => fun
  | [d1, d2, d3] => { results := [.lit (.bool true)], args := [d1, d2, d3] }
  | _ => none }
def reasmMakesRow : OpenClaim := { program := "ytimiokbnhneggaa", sum := "4a18019b919cd092b3cf642dbc6b3b7dc12758bae0c3d6897fd8e44cf4900c4d", func := "braid/braidlaw08.ReasmMakes", spec := "reasmMakes", inPlace := ["slices.overlaps[braid/api.Range]"], unfollowed := true, recurses := true, apart := false }
def ReasmMakesSaid : Prop := reasmMakesRow.holds Try.pinned (OpenSpec.ofChange reasmMakesSpec)

/-- ITS FALSE NEIGHBOUR: 'it returns false'. Refute it at one input. -/
def reasmMakesWrong : ChangeSpec := { name := "reasmMakes", fn := fun _ => fun
  | [d1, d2, d3] => { results := [.lit (.bool false)], args := [d1, d2, d3] }
  | _ => none }
def ReasmMakesWrongFalsely : Prop := reasmMakesRow.holds Try.pinned (OpenSpec.ofChange reasmMakesWrong)

/-- 'braidlaw08.ReasmFresh': WHATEVER THE INPUT: true; the input reads as it did. -/
def reasmFreshSpec : ChangeSpec := { name := "reasmFresh", fn := fun _ => fun
  | [d1, d2] => { results := [.lit (.bool true)], args := [d1, d2] }
  | _ => none }
def reasmFreshRow : OpenClaim := { program := "ytimiokbnhneggaa", sum := "4a18019b919cd092b3cf642dbc6b3b7dc12758bae0c3d6897fd8e44cf4900c4d", func := "braid/braidlaw08.ReasmFresh", spec := "reasmFresh", inPlace := ["slices.overlaps[braid/api.Range]"], unfollowed := true, recurses := true, apart := false }
def ReasmFreshSaid : Prop := reasmFreshRow.holds Try.pinned (OpenSpec.ofChange reasmFreshSpec)

/-- ITS FALSE NEIGHBOUR: 'it returns false'. Refute it at one input. -/
def reasmFreshWrong : ChangeSpec := { name := "reasmFresh", fn := fun _ => fun
  | [d1, d2] => { results := [.lit (.bool false)], args := [d1, d2] }
  | _ => none }
def ReasmFreshWrongFalsely : Prop := reasmFreshRow.holds Try.pinned (OpenSpec.ofChange reasmFreshWrong)

/-- 'braidlaw08.ReasmNobody': WHATEVER THE INPUT: true; the input reads as it did. -/
def reasmNobodySpec : ChangeSpec := { name := "reasmNobody", fn := fun _ => fun
  | [d1, d2, d3, d4] => { results := [.lit (.bool true)], args := [d1, d2, d3, d4] }
  | _ => none }
def reasmNobodyRow : OpenClaim := { program := "ytimiokbnhneggaa", sum := "4a18019b919cd092b3cf642dbc6b3b7dc12758bae0c3d6897fd8e44cf4900c4d", func := "braid/braidlaw08.ReasmNobody", spec := "reasmNobody", inPlace := ["slices.overlaps[braid/api.Range]"], unfollowed := true, recurses := true, apart := false }
def ReasmNobodySaid : Prop := reasmNobodyRow.holds Try.pinned (OpenSpec.ofChange reasmNobodySpec)

/-- ITS FALSE NEIGHBOUR: 'it returns false'. Refute it at one input. -/
def reasmNobodyWrong : ChangeSpec := { name := "reasmNobody", fn := fun _ => fun
  | [d1, d2, d3, d4] => { results := [.lit (.bool false)], args := [d1, d2, d3, d4] }
  | _ => none }
def ReasmNobodyWrongFalsely : Prop := reasmNobodyRow.holds Try.pinned (OpenSpec.ofChange reasmNobodyWrong)

/-- 'braidlaw08.ReasmStream': WHATEVER THE INPUT: true; the input reads as it did. -/
def reasmStreamSpec : ChangeSpec := { name := "reasmStream", fn := fun _ => fun
  | [d1, d2, d3, d4, d5] => { results := [.lit (.bool true)], args := [d1, d2, d3, d4, d5] }
  | _ => none }
def reasmStreamRow : OpenClaim := { program := "ytimiokbnhneggaa", sum := "4a18019b919cd092b3cf642dbc6b3b7dc12758bae0c3d6897fd8e44cf4900c4d", func := "braid/braidlaw08.ReasmStream", spec := "reasmStream", inPlace := ["slices.overlaps[braid/api.Range]"], unfollowed := true, recurses := true, apart := false }
def ReasmStreamSaid : Prop := reasmStreamRow.holds Try.pinned (OpenSpec.ofChange reasmStreamSpec)

/-- ITS FALSE NEIGHBOUR: 'it returns false'. Refute it at one input. -/
def reasmStreamWrong : ChangeSpec := { name := "reasmStream", fn := fun _ => fun
  | [d1, d2, d3, d4, d5] => { results := [.lit (.bool false)], args := [d1, d2, d3, d4, d5] }
  | _ => none }
def ReasmStreamWrongFalsely : Prop := reasmStreamRow.holds Try.pinned (OpenSpec.ofChange reasmStreamWrong)

/-- 'braidlaw08.ReasmBounds': WHATEVER THE INPUT: true; the input reads as it did. -/
def reasmBoundsSpec : ChangeSpec := { name := "reasmBounds", fn := fun _ => fun
  | [d1, d2] => { results := [.lit (.bool true)], args := [d1, d2] }
  | _ => none }
def reasmBoundsRow : OpenClaim := { program := "ytimiokbnhneggaa", sum := "4a18019b919cd092b3cf642dbc6b3b7dc12758bae0c3d6897fd8e44cf4900c4d", func := "braid/braidlaw08.ReasmBounds", spec := "reasmBounds", inPlace := ["slices.overlaps[braid/api.Range]"], unfollowed := true, recurses := true, apart := false }
def ReasmBoundsSaid : Prop := reasmBoundsRow.holds Try.pinned (OpenSpec.ofChange reasmBoundsSpec)

/-- ITS FALSE NEIGHBOUR: 'it returns false'. Refute it at one input. -/
def reasmBoundsWrong : ChangeSpec := { name := "reasmBounds", fn := fun _ => fun
  | [d1, d2] => { results := [.lit (.bool false)], args := [d1, d2] }
  | _ => none }
def ReasmBoundsWrongFalsely : Prop := reasmBoundsRow.holds Try.pinned (OpenSpec.ofChange reasmBoundsWrong)

/- THE SECOND FORM. 'bulk': how many values and letters a reading holds, each counted each time it is reached (what is shared counts as often as it is met; a slice's spare places count too). A statement '..UptoSaid' is the law's where the arguments, and the package variables that the reading takes, are together of bulk at most 1048576: NARROWER than '..Said'. Prove '..Said' where nothing that the law and all that it calls make is longer than what came in: it says more and counts as full. Else prove '..UptoSaid'. A law counts once. -/
mutual
def uptoBulk {H : Type} : DataW H → Nat
  | .lit (.string bytes) => bytes.length + 1
  | .lit _ => 1
  | .nil => 1
  | .ptr d => uptoBulk d + 1
  | .slice elems spare => uptoBulkAll elems + uptoBulkAll spare + 1
  | .agg parts => uptoBulkAll parts + 1
  | .iface _ d => uptoBulk d + 1
  | .map entries => uptoBulkEntries entries + 1
  | .held _ => 1
def uptoBulkAll {H : Type} : List (DataW H) → Nat
  | [] => 0
  | d :: r => uptoBulk d + uptoBulkAll r
def uptoBulkEntries {H : Type} : List (Lit × DataW H) → Nat
  | [] => 0
  | x :: r => uptoBulkEntry x + uptoBulkEntries r
def uptoBulkEntry {H : Type} : Lit × DataW H → Nat
  | (.string bytes, d) => bytes.length + uptoBulk d + 1
  | (_, d) => uptoBulk d + 1
 end
def uptoSmall : (H : Type) → List (DataW H) → Bool := fun _ ds => decide (uptoBulkAll ds ≤ 1048576)
def OpenSpec.upto (s : _root_.Go.ChangeSpec) : _root_.Go.OpenSpec := { _root_.Go.OpenSpec.ofChange s with cond := some uptoSmall }

/-- 'braidlaw08.ReasmFirst', WHERE WHAT IT READS IS OF BULK AT MOST 1048576: true; the input reads as it did. -/
def reasmFirstUptoRow : OpenClaim := { program := "ytimiokbnhneggaa", sum := "4a18019b919cd092b3cf642dbc6b3b7dc12758bae0c3d6897fd8e44cf4900c4d", func := "braid/braidlaw08.ReasmFirst", spec := "reasmFirst", inPlace := ["slices.overlaps[braid/api.Range]"], unfollowed := true, recurses := true, apart := false, narrowed := true }
def ReasmFirstUptoSaid : Prop := reasmFirstUptoRow.holds Try.pinned (OpenSpec.upto reasmFirstSpec)

/-- 'braidlaw08.ReasmMakes', WHERE WHAT IT READS IS OF BULK AT MOST 1048576: true; the input reads as it did. -/
def reasmMakesUptoRow : OpenClaim := { program := "ytimiokbnhneggaa", sum := "4a18019b919cd092b3cf642dbc6b3b7dc12758bae0c3d6897fd8e44cf4900c4d", func := "braid/braidlaw08.ReasmMakes", spec := "reasmMakes", inPlace := ["slices.overlaps[braid/api.Range]"], unfollowed := true, recurses := true, apart := false, narrowed := true }
def ReasmMakesUptoSaid : Prop := reasmMakesUptoRow.holds Try.pinned (OpenSpec.upto reasmMakesSpec)

/-- 'braidlaw08.ReasmFresh', WHERE WHAT IT READS IS OF BULK AT MOST 1048576: true; the input reads as it did. -/
def reasmFreshUptoRow : OpenClaim := { program := "ytimiokbnhneggaa", sum := "4a18019b919cd092b3cf642dbc6b3b7dc12758bae0c3d6897fd8e44cf4900c4d", func := "braid/braidlaw08.ReasmFresh", spec := "reasmFresh", inPlace := ["slices.overlaps[braid/api.Range]"], unfollowed := true, recurses := true, apart := false, narrowed := true }
def ReasmFreshUptoSaid : Prop := reasmFreshUptoRow.holds Try.pinned (OpenSpec.upto reasmFreshSpec)

/-- 'braidlaw08.ReasmNobody', WHERE WHAT IT READS IS OF BULK AT MOST 1048576: true; the input reads as it did. -/
def reasmNobodyUptoRow : OpenClaim := { program := "ytimiokbnhneggaa", sum := "4a18019b919cd092b3cf642dbc6b3b7dc12758bae0c3d6897fd8e44cf4900c4d", func := "braid/braidlaw08.ReasmNobody", spec := "reasmNobody", inPlace := ["slices.overlaps[braid/api.Range]"], unfollowed := true, recurses := true, apart := false, narrowed := true }
def ReasmNobodyUptoSaid : Prop := reasmNobodyUptoRow.holds Try.pinned (OpenSpec.upto reasmNobodySpec)

/-- 'braidlaw08.ReasmStream', WHERE WHAT IT READS IS OF BULK AT MOST 1048576: true; the input reads as it did. -/
def reasmStreamUptoRow : OpenClaim := { program := "ytimiokbnhneggaa", sum := "4a18019b919cd092b3cf642dbc6b3b7dc12758bae0c3d6897fd8e44cf4900c4d", func := "braid/braidlaw08.ReasmStream", spec := "reasmStream", inPlace := ["slices.overlaps[braid/api.Range]"], unfollowed := true, recurses := true, apart := false, narrowed := true }
def ReasmStreamUptoSaid : Prop := reasmStreamUptoRow.holds Try.pinned (OpenSpec.upto reasmStreamSpec)

/-- 'braidlaw08.ReasmBounds', WHERE WHAT IT READS IS OF BULK AT MOST 1048576: true; the input reads as it did. -/
def reasmBoundsUptoRow : OpenClaim := { program := "ytimiokbnhneggaa", sum := "4a18019b919cd092b3cf642dbc6b3b7dc12758bae0c3d6897fd8e44cf4900c4d", func := "braid/braidlaw08.ReasmBounds", spec := "reasmBounds", inPlace := ["slices.overlaps[braid/api.Range]"], unfollowed := true, recurses := true, apart := false, narrowed := true }
def ReasmBoundsUptoSaid : Prop := reasmBoundsUptoRow.holds Try.pinned (OpenSpec.upto reasmBoundsSpec)

end Rows
end Go.Proofs.Ytimiokbnhneggaa
