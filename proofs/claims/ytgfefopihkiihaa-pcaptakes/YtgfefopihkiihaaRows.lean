/-
  No cell of these rows narrows 'for every input' (looked for: loops, veiled, ifaces, maps, wideKeys, modest, calm, conditions, laid).
  DERIVED. THE GIVEN ROWS OF THIS SEAT. 6 by the template 'for every input the law returns true; each argument reads behind the call as it read before'; 0 by the template 'total and deterministic' (their statements: YtgfefopihkiihaaTotals.lean).
  GIVEN WITH THE SEED: the statements are not yours to turn. If you find one false, say at which input.
  Laid BY PROGRAM, IN A SANDBOX (cutbox-rows.mjs): the forced cells as the released guide's own fill.sh prints them over the translation 27b2f933a329b513… (all of the seat's roots in one cut). By AI agents, Wed Nov 11 2026. No macro, syntax, notation, axiom, sorry.
-/
import Derived.Test.YtgfefopihkiihaaChecked
import GoSem.Claim
import GoSem.ClaimJoined
import GoSem.ClaimMapViews
import Derived.JoinedTies
import Derived.KernelRfl
namespace Go.Proofs.Ytgfefopihkiihaa
/- THE CELL 'sum', in the pinned program and in every row, IS THE sha256 OF THE DUMP (.gsa) THAT YtgfefopihkiihaaProg.lean LOADS. Nothing in Lean hashes anything: it is a label: what it is worth is what the hold of that sum in a sandbox is worth. -/
noncomputable def Try.pinned : Pinned := { name := "ytgfefopihkiihaa", sum := "27b2f933a329b5134d4876d312966be865660303978f8a9fb375ecea52ade117", checked := Try.checked }
namespace Rows
def none {H : Type} : Left H := { results := [], args := [] }

/-- 'braidlaw25.PcapTakes': WHATEVER THE INPUT: true; the input reads as it did. -/
def pcapTakesSpec : ChangeSpec := { name := "pcapTakes", fn := fun _ => fun
  | [d] => { results := [.lit (.bool true)], args := [d] }
  | _ => none }
def pcapTakesRow : OpenClaim := { program := "ytgfefopihkiihaa", sum := "27b2f933a329b5134d4876d312966be865660303978f8a9fb375ecea52ade117", func := "braid/braidlaw25.PcapTakes", spec := "pcapTakes", apart := false }
def PcapTakesSaid : Prop := pcapTakesRow.holds Try.pinned (OpenSpec.ofChange pcapTakesSpec)

/-- ITS FALSE NEIGHBOUR: 'it returns false'. Refute it at one input. -/
def pcapTakesWrong : ChangeSpec := { name := "pcapTakes", fn := fun _ => fun
  | [d] => { results := [.lit (.bool false)], args := [d] }
  | _ => none }
def PcapTakesWrongFalsely : Prop := pcapTakesRow.holds Try.pinned (OpenSpec.ofChange pcapTakesWrong)

/-- 'braidlaw25.PcapOneForm': WHATEVER THE INPUT: true; the input reads as it did. -/
def pcapOneFormSpec : ChangeSpec := { name := "pcapOneForm", fn := fun _ => fun
  | [d] => { results := [.lit (.bool true)], args := [d] }
  | _ => none }
def pcapOneFormRow : OpenClaim := { program := "ytgfefopihkiihaa", sum := "27b2f933a329b5134d4876d312966be865660303978f8a9fb375ecea52ade117", func := "braid/braidlaw25.PcapOneForm", spec := "pcapOneForm", unfollowed := true, recurses := true, apart := false }
def PcapOneFormSaid : Prop := pcapOneFormRow.holds Try.pinned (OpenSpec.ofChange pcapOneFormSpec)

/-- ITS FALSE NEIGHBOUR: 'it returns false'. Refute it at one input. -/
def pcapOneFormWrong : ChangeSpec := { name := "pcapOneForm", fn := fun _ => fun
  | [d] => { results := [.lit (.bool false)], args := [d] }
  | _ => none }
def PcapOneFormWrongFalsely : Prop := pcapOneFormRow.holds Try.pinned (OpenSpec.ofChange pcapOneFormWrong)

/-- 'braidlaw25.PcapReads': WHATEVER THE INPUT: true; the input reads as it did. -/
def pcapReadsSpec : ChangeSpec := { name := "pcapReads", fn := fun _ => fun
  | [d] => { results := [.lit (.bool true)], args := [d] }
  | _ => none }
def pcapReadsRow : OpenClaim := { program := "ytgfefopihkiihaa", sum := "27b2f933a329b5134d4876d312966be865660303978f8a9fb375ecea52ade117", func := "braid/braidlaw25.PcapReads", spec := "pcapReads", unfollowed := true, recurses := true, apart := false }
def PcapReadsSaid : Prop := pcapReadsRow.holds Try.pinned (OpenSpec.ofChange pcapReadsSpec)

/-- ITS FALSE NEIGHBOUR: 'it returns false'. Refute it at one input. -/
def pcapReadsWrong : ChangeSpec := { name := "pcapReads", fn := fun _ => fun
  | [d] => { results := [.lit (.bool false)], args := [d] }
  | _ => none }
def PcapReadsWrongFalsely : Prop := pcapReadsRow.holds Try.pinned (OpenSpec.ofChange pcapReadsWrong)

/-- 'braidlaw25.PcapWrites': WHATEVER THE INPUT: true; the input reads as it did. -/
def pcapWritesSpec : ChangeSpec := { name := "pcapWrites", fn := fun _ => fun
  | [d] => { results := [.lit (.bool true)], args := [d] }
  | _ => none }
def pcapWritesRow : OpenClaim := { program := "ytgfefopihkiihaa", sum := "27b2f933a329b5134d4876d312966be865660303978f8a9fb375ecea52ade117", func := "braid/braidlaw25.PcapWrites", spec := "pcapWrites", unfollowed := true, recurses := true, apart := false }
def PcapWritesSaid : Prop := pcapWritesRow.holds Try.pinned (OpenSpec.ofChange pcapWritesSpec)

/-- ITS FALSE NEIGHBOUR: 'it returns false'. Refute it at one input. -/
def pcapWritesWrong : ChangeSpec := { name := "pcapWrites", fn := fun _ => fun
  | [d] => { results := [.lit (.bool false)], args := [d] }
  | _ => none }
def PcapWritesWrongFalsely : Prop := pcapWritesRow.holds Try.pinned (OpenSpec.ofChange pcapWritesWrong)

/-- 'braidlaw25.PcapTells': WHATEVER THE INPUT: true; the input reads as it did. -/
def pcapTellsSpec : ChangeSpec := { name := "pcapTells", fn := fun _ => fun
  | [d] => { results := [.lit (.bool true)], args := [d] }
  | _ => none }
def pcapTellsRow : OpenClaim := { program := "ytgfefopihkiihaa", sum := "27b2f933a329b5134d4876d312966be865660303978f8a9fb375ecea52ade117", func := "braid/braidlaw25.PcapTells", spec := "pcapTells", apart := false }
def PcapTellsSaid : Prop := pcapTellsRow.holds Try.pinned (OpenSpec.ofChange pcapTellsSpec)

/-- ITS FALSE NEIGHBOUR: 'it returns false'. Refute it at one input. -/
def pcapTellsWrong : ChangeSpec := { name := "pcapTells", fn := fun _ => fun
  | [d] => { results := [.lit (.bool false)], args := [d] }
  | _ => none }
def PcapTellsWrongFalsely : Prop := pcapTellsRow.holds Try.pinned (OpenSpec.ofChange pcapTellsWrong)

/-- 'braidlaw25.PcapBack': WHATEVER THE INPUT: true; the input reads as it did. -/
def pcapBackSpec : ChangeSpec := { name := "pcapBack", fn := fun _ => fun
  | [d] => { results := [.lit (.bool true)], args := [d] }
  | _ => none }
def pcapBackRow : OpenClaim := { program := "ytgfefopihkiihaa", sum := "27b2f933a329b5134d4876d312966be865660303978f8a9fb375ecea52ade117", func := "braid/braidlaw25.PcapBack", spec := "pcapBack", unfollowed := true, recurses := true, apart := false }
def PcapBackSaid : Prop := pcapBackRow.holds Try.pinned (OpenSpec.ofChange pcapBackSpec)

/-- ITS FALSE NEIGHBOUR: 'it returns false'. Refute it at one input. -/
def pcapBackWrong : ChangeSpec := { name := "pcapBack", fn := fun _ => fun
  | [d] => { results := [.lit (.bool false)], args := [d] }
  | _ => none }
def PcapBackWrongFalsely : Prop := pcapBackRow.holds Try.pinned (OpenSpec.ofChange pcapBackWrong)

/- THE SECOND FORM. 'bulk': how many values and letters a reading holds, each counted each time it is reached (what is shared counts as often as it is met; a slice's spare places count too). A statement '..UptoSaid' is the law's where the arguments, and the package variables that the reading takes, are together of bulk at most 1048576: NARROWER than '..Said'. Prove '..Said' where nothing that the law and all that it calls make is longer than what came in: it says more and counts as full. Else prove '..UptoSaid'. A law counts once. -/
mutual
def uptoBulk {H : Type} : DataW H → Nat
  | .lit (.string bytes) => bytes.length + 1
  | .lit _ => 1
  | .nil => 1
  | .ptr d => uptoBulk d + 1
  | .slice elems spare => uptoBulkAll elems + uptoBulkAll spare + 1
  | .agg parts => uptoBulkAll parts + 1
  | .iface _ d => uptoBulk d + 1
  | .map entries => uptoBulkEntries entries + 1
  | .held _ => 1
def uptoBulkAll {H : Type} : List (DataW H) → Nat
  | [] => 0
  | d :: r => uptoBulk d + uptoBulkAll r
def uptoBulkEntries {H : Type} : List (Lit × DataW H) → Nat
  | [] => 0
  | x :: r => uptoBulkEntry x + uptoBulkEntries r
def uptoBulkEntry {H : Type} : Lit × DataW H → Nat
  | (.string bytes, d) => bytes.length + uptoBulk d + 1
  | (_, d) => uptoBulk d + 1
 end
def uptoSmall : (H : Type) → List (DataW H) → Bool := fun _ ds => decide (uptoBulkAll ds ≤ 1048576)
def OpenSpec.upto (s : _root_.Go.ChangeSpec) : _root_.Go.OpenSpec := { _root_.Go.OpenSpec.ofChange s with cond := some uptoSmall }

/-- 'braidlaw25.PcapTakes', WHERE WHAT IT READS IS OF BULK AT MOST 1048576: true; the input reads as it did. -/
def pcapTakesUptoRow : OpenClaim := { program := "ytgfefopihkiihaa", sum := "27b2f933a329b5134d4876d312966be865660303978f8a9fb375ecea52ade117", func := "braid/braidlaw25.PcapTakes", spec := "pcapTakes", apart := false, narrowed := true }
def PcapTakesUptoSaid : Prop := pcapTakesUptoRow.holds Try.pinned (OpenSpec.upto pcapTakesSpec)

/-- 'braidlaw25.PcapOneForm', WHERE WHAT IT READS IS OF BULK AT MOST 1048576: true; the input reads as it did. -/
def pcapOneFormUptoRow : OpenClaim := { program := "ytgfefopihkiihaa", sum := "27b2f933a329b5134d4876d312966be865660303978f8a9fb375ecea52ade117", func := "braid/braidlaw25.PcapOneForm", spec := "pcapOneForm", unfollowed := true, recurses := true, apart := false, narrowed := true }
def PcapOneFormUptoSaid : Prop := pcapOneFormUptoRow.holds Try.pinned (OpenSpec.upto pcapOneFormSpec)

/-- 'braidlaw25.PcapReads', WHERE WHAT IT READS IS OF BULK AT MOST 1048576: true; the input reads as it did. -/
def pcapReadsUptoRow : OpenClaim := { program := "ytgfefopihkiihaa", sum := "27b2f933a329b5134d4876d312966be865660303978f8a9fb375ecea52ade117", func := "braid/braidlaw25.PcapReads", spec := "pcapReads", unfollowed := true, recurses := true, apart := false, narrowed := true }
def PcapReadsUptoSaid : Prop := pcapReadsUptoRow.holds Try.pinned (OpenSpec.upto pcapReadsSpec)

/-- 'braidlaw25.PcapWrites', WHERE WHAT IT READS IS OF BULK AT MOST 1048576: true; the input reads as it did. -/
def pcapWritesUptoRow : OpenClaim := { program := "ytgfefopihkiihaa", sum := "27b2f933a329b5134d4876d312966be865660303978f8a9fb375ecea52ade117", func := "braid/braidlaw25.PcapWrites", spec := "pcapWrites", unfollowed := true, recurses := true, apart := false, narrowed := true }
def PcapWritesUptoSaid : Prop := pcapWritesUptoRow.holds Try.pinned (OpenSpec.upto pcapWritesSpec)

/-- 'braidlaw25.PcapTells', WHERE WHAT IT READS IS OF BULK AT MOST 1048576: true; the input reads as it did. -/
def pcapTellsUptoRow : OpenClaim := { program := "ytgfefopihkiihaa", sum := "27b2f933a329b5134d4876d312966be865660303978f8a9fb375ecea52ade117", func := "braid/braidlaw25.PcapTells", spec := "pcapTells", apart := false, narrowed := true }
def PcapTellsUptoSaid : Prop := pcapTellsUptoRow.holds Try.pinned (OpenSpec.upto pcapTellsSpec)

/-- 'braidlaw25.PcapBack', WHERE WHAT IT READS IS OF BULK AT MOST 1048576: true; the input reads as it did. -/
def pcapBackUptoRow : OpenClaim := { program := "ytgfefopihkiihaa", sum := "27b2f933a329b5134d4876d312966be865660303978f8a9fb375ecea52ade117", func := "braid/braidlaw25.PcapBack", spec := "pcapBack", unfollowed := true, recurses := true, apart := false, narrowed := true }
def PcapBackUptoSaid : Prop := pcapBackUptoRow.holds Try.pinned (OpenSpec.upto pcapBackSpec)

end Rows
end Go.Proofs.Ytgfefopihkiihaa
