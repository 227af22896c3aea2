/-
  NARROWER THAN 'FOR EVERY INPUT', by the rows' own cells (each row's printed sentence says how): WireApart: laid · WireBack: laid · WireOneForm: laid · WireTold: laid · WireCuts: laid · WireReads: laid.
  DERIVED. THE GIVEN ROWS OF THIS SEAT. 6 by the template 'for every input the law returns true; each argument reads behind the call as it read before'; 0 by the template 'total and deterministic' (their statements: YtgkfnbbgohdalaaDoorTotals.lean).
  GIVEN WITH THE SEED: the statements are not yours to turn. If you find one false, say at which input.
  Laid BY PROGRAM, IN A SANDBOX (cutbox-rows.mjs): the forced cells as the released guide's own fill.sh prints them over the translation 26341ee716699ea7… (all of the seat's roots in one cut). By AI agents, Wed Nov 11 2026. No macro, syntax, notation, axiom, sorry.
-/
import Derived.Test.YtgkfnbbgohdalaaDoorChecked
import GoSem.Claim
import GoSem.ClaimJoined
import GoSem.ClaimMapViews
import Derived.JoinedTies
import Derived.KernelRfl
namespace Go.Proofs.YtgkfnbbgohdalaaDoor
/- THE CELL 'sum', in the pinned program and in every row, IS THE sha256 OF THE DUMP (.gsa) THAT YtgkfnbbgohdalaaDoorProg.lean LOADS. Nothing in Lean hashes anything: it is a label: what it is worth is what the hold of that sum in a sandbox is worth. -/
noncomputable def Tryd.pinned : Pinned := { name := "ytgkfnbbgohdalaadoor", sum := "26341ee716699ea724ec5e3f1c3c9248e610c06896df2d226060eab8c83cfe61", checked := Tryd.checked }
namespace Rows
def none {H : Type} : Left H := { results := [], args := [] }

/- WHAT THE LISTED PACKAGE-LEVEL VARIABLES READ AS WHEN THE CALL BEGINS. Each datum BY PROGRAM (the guide's laid-datum.mjs) off the statement by which the dump's own 'gosem.cut.vars' lays the variable. In a bare row this is a premise. The card (YtgkfnbbgohdalaaDoorCards.lean) ties it to the program's text. -/
def laid_braid_sums_crcSteps {H : Type} : DataW H := .agg [.lit (.int .u32 0), .lit (.int .u32 498536548), .lit (.int .u32 997073096), .lit (.int .u32 651767980), .lit (.int .u32 1994146192), .lit (.int .u32 1802195444), .lit (.int .u32 1303535960), .lit (.int .u32 1342533948), .lit (.int .u32 3988292384), .lit (.int .u32 4027552580), .lit (.int .u32 3604390888), .lit (.int .u32 3412177804), .lit (.int .u32 2607071920), .lit (.int .u32 2262029012), .lit (.int .u32 2685067896), .lit (.int .u32 3183342108)]
def laid_braid_wire_sizes {H : Type} : DataW H := .agg [.lit (.int .i64 0), .lit (.int .i64 24), .lit (.int .i64 22), .lit (.int .i64 14), .lit (.int .i64 7), .lit (.int .i64 22), .lit (.int .i64 10), .lit (.int .i64 15), .lit (.int .i64 18), .lit (.int .i64 26), .lit (.int .i64 7), .lit (.int .i64 7)]

/-- 'braidlaw03.WireApart': WHATEVER THE INPUT: true; the input reads as it did. -/
def wireApartSpec : ChangeSpec := { name := "wireApart", fn := fun _ => fun
  | [d1, d2] => { results := [.lit (.bool true)], args := [d1, d2] }
  | _ => none }
def wireApartRow : OpenClaim := { program := "ytgkfnbbgohdalaadoor", sum := "26341ee716699ea724ec5e3f1c3c9248e610c06896df2d226060eab8c83cfe61", func := "braid/braidlaw03.WireApart", spec := "wireApart", named := ["braid/wire.sizes", "braid/sums.crcSteps"], apart := false, laid := [("braid/sums.crcSteps", laid_braid_sums_crcSteps), ("braid/wire.sizes", laid_braid_wire_sizes)] }
def WireApartSaid : Prop := wireApartRow.holds Tryd.pinned (OpenSpec.ofChange wireApartSpec)

/-- ITS FALSE NEIGHBOUR: 'it returns false'. Refute it at one input. -/
def wireApartWrong : ChangeSpec := { name := "wireApart", fn := fun _ => fun
  | [d1, d2] => { results := [.lit (.bool false)], args := [d1, d2] }
  | _ => none }
def WireApartWrongFalsely : Prop := wireApartRow.holds Tryd.pinned (OpenSpec.ofChange wireApartWrong)

/-- 'braidlaw03.WireBack': WHATEVER THE INPUT: true; the input reads as it did. -/
def wireBackSpec : ChangeSpec := { name := "wireBack", fn := fun _ => fun
  | [d] => { results := [.lit (.bool true)], args := [d] }
  | _ => none }
def wireBackRow : OpenClaim := { program := "ytgkfnbbgohdalaadoor", sum := "26341ee716699ea724ec5e3f1c3c9248e610c06896df2d226060eab8c83cfe61", func := "braid/braidlaw03.WireBack", spec := "wireBack", named := ["braid/wire.sizes", "braid/sums.crcSteps"], apart := false, laid := [("braid/sums.crcSteps", laid_braid_sums_crcSteps), ("braid/wire.sizes", laid_braid_wire_sizes)] }
def WireBackSaid : Prop := wireBackRow.holds Tryd.pinned (OpenSpec.ofChange wireBackSpec)

/-- ITS FALSE NEIGHBOUR: 'it returns false'. Refute it at one input. -/
def wireBackWrong : ChangeSpec := { name := "wireBack", fn := fun _ => fun
  | [d] => { results := [.lit (.bool false)], args := [d] }
  | _ => none }
def WireBackWrongFalsely : Prop := wireBackRow.holds Tryd.pinned (OpenSpec.ofChange wireBackWrong)

/-- 'braidlaw03.WireOneForm': WHATEVER THE INPUT: true; the input reads as it did. -/
def wireOneFormSpec : ChangeSpec := { name := "wireOneForm", fn := fun _ => fun
  | [d] => { results := [.lit (.bool true)], args := [d] }
  | _ => none }
def wireOneFormRow : OpenClaim := { program := "ytgkfnbbgohdalaadoor", sum := "26341ee716699ea724ec5e3f1c3c9248e610c06896df2d226060eab8c83cfe61", func := "braid/braidlaw03.WireOneForm", spec := "wireOneForm", named := ["braid/wire.sizes", "braid/sums.crcSteps"], apart := false, laid := [("braid/sums.crcSteps", laid_braid_sums_crcSteps), ("braid/wire.sizes", laid_braid_wire_sizes)] }
def WireOneFormSaid : Prop := wireOneFormRow.holds Tryd.pinned (OpenSpec.ofChange wireOneFormSpec)

/-- ITS FALSE NEIGHBOUR: 'it returns false'. Refute it at one input. -/
def wireOneFormWrong : ChangeSpec := { name := "wireOneForm", fn := fun _ => fun
  | [d] => { results := [.lit (.bool false)], args := [d] }
  | _ => none }
def WireOneFormWrongFalsely : Prop := wireOneFormRow.holds Tryd.pinned (OpenSpec.ofChange wireOneFormWrong)

/-- 'braidlaw03.WireTold': WHATEVER THE INPUT: true; the input reads as it did. -/
def wireToldSpec : ChangeSpec := { name := "wireTold", fn := fun _ => fun
  | [d1, d2, d3, d4, d5] => { results := [.lit (.bool true)], args := [d1, d2, d3, d4, d5] }
  | _ => none }
def wireToldRow : OpenClaim := { program := "ytgkfnbbgohdalaadoor", sum := "26341ee716699ea724ec5e3f1c3c9248e610c06896df2d226060eab8c83cfe61", func := "braid/braidlaw03.WireTold", spec := "wireTold", named := ["braid/wire.sizes", "braid/sums.crcSteps"], apart := false, laid := [("braid/sums.crcSteps", laid_braid_sums_crcSteps), ("braid/wire.sizes", laid_braid_wire_sizes)] }
def WireToldSaid : Prop := wireToldRow.holds Tryd.pinned (OpenSpec.ofChange wireToldSpec)

/-- ITS FALSE NEIGHBOUR: 'it returns false'. Refute it at one input. -/
def wireToldWrong : ChangeSpec := { name := "wireTold", fn := fun _ => fun
  | [d1, d2, d3, d4, d5] => { results := [.lit (.bool false)], args := [d1, d2, d3, d4, d5] }
  | _ => none }
def WireToldWrongFalsely : Prop := wireToldRow.holds Tryd.pinned (OpenSpec.ofChange wireToldWrong)

/-- 'braidlaw03.WireCuts': WHATEVER THE INPUT: true; the input reads as it did. -/
def wireCutsSpec : ChangeSpec := { name := "wireCuts", fn := fun _ => fun
  | [d1, d2, d3] => { results := [.lit (.bool true)], args := [d1, d2, d3] }
  | _ => none }
def wireCutsRow : OpenClaim := { program := "ytgkfnbbgohdalaadoor", sum := "26341ee716699ea724ec5e3f1c3c9248e610c06896df2d226060eab8c83cfe61", func := "braid/braidlaw03.WireCuts", spec := "wireCuts", named := ["braid/wire.sizes", "braid/sums.crcSteps"], apart := false, laid := [("braid/sums.crcSteps", laid_braid_sums_crcSteps), ("braid/wire.sizes", laid_braid_wire_sizes)] }
def WireCutsSaid : Prop := wireCutsRow.holds Tryd.pinned (OpenSpec.ofChange wireCutsSpec)

/-- ITS FALSE NEIGHBOUR: 'it returns false'. Refute it at one input. -/
def wireCutsWrong : ChangeSpec := { name := "wireCuts", fn := fun _ => fun
  | [d1, d2, d3] => { results := [.lit (.bool false)], args := [d1, d2, d3] }
  | _ => none }
def WireCutsWrongFalsely : Prop := wireCutsRow.holds Tryd.pinned (OpenSpec.ofChange wireCutsWrong)

/-- 'braidlaw03.WireReads': WHATEVER THE INPUT: true; the input reads as it did. -/
def wireReadsSpec : ChangeSpec := { name := "wireReads", fn := fun _ => fun
  | [d] => { results := [.lit (.bool true)], args := [d] }
  | _ => none }
def wireReadsRow : OpenClaim := { program := "ytgkfnbbgohdalaadoor", sum := "26341ee716699ea724ec5e3f1c3c9248e610c06896df2d226060eab8c83cfe61", func := "braid/braidlaw03.WireReads", spec := "wireReads", named := ["braid/sums.crcSteps", "braid/wire.sizes"], apart := false, laid := [("braid/sums.crcSteps", laid_braid_sums_crcSteps), ("braid/wire.sizes", laid_braid_wire_sizes)] }
def WireReadsSaid : Prop := wireReadsRow.holds Tryd.pinned (OpenSpec.ofChange wireReadsSpec)

/-- ITS FALSE NEIGHBOUR: 'it returns false'. Refute it at one input. -/
def wireReadsWrong : ChangeSpec := { name := "wireReads", fn := fun _ => fun
  | [d] => { results := [.lit (.bool false)], args := [d] }
  | _ => none }
def WireReadsWrongFalsely : Prop := wireReadsRow.holds Tryd.pinned (OpenSpec.ofChange wireReadsWrong)

/- THE SECOND FORM. 'bulk': how many values and letters a reading holds, each counted each time it is reached (what is shared counts as often as it is met; a slice's spare places count too). A statement '..UptoSaid' is the law's where the arguments, and the package variables that the reading takes, are together of bulk at most 1048576: NARROWER than '..Said'. Prove '..Said' where nothing that the law and all that it calls make is longer than what came in: it says more and counts as full. Else prove '..UptoSaid'. A law counts once. -/
mutual
def uptoBulk {H : Type} : DataW H → Nat
  | .lit (.string bytes) => bytes.length + 1
  | .lit _ => 1
  | .nil => 1
  | .ptr d => uptoBulk d + 1
  | .slice elems spare => uptoBulkAll elems + uptoBulkAll spare + 1
  | .agg parts => uptoBulkAll parts + 1
  | .iface _ d => uptoBulk d + 1
  | .map entries => uptoBulkEntries entries + 1
  | .held _ => 1
def uptoBulkAll {H : Type} : List (DataW H) → Nat
  | [] => 0
  | d :: r => uptoBulk d + uptoBulkAll r
def uptoBulkEntries {H : Type} : List (Lit × DataW H) → Nat
  | [] => 0
  | x :: r => uptoBulkEntry x + uptoBulkEntries r
def uptoBulkEntry {H : Type} : Lit × DataW H → Nat
  | (.string bytes, d) => bytes.length + uptoBulk d + 1
  | (_, d) => uptoBulk d + 1
 end
def uptoSmall : (H : Type) → List (DataW H) → Bool := fun _ ds => decide (uptoBulkAll ds ≤ 1048576)
def OpenSpec.upto (s : _root_.Go.ChangeSpec) : _root_.Go.OpenSpec := { _root_.Go.OpenSpec.ofChange s with cond := some uptoSmall }

/-- 'braidlaw03.WireApart', WHERE WHAT IT READS IS OF BULK AT MOST 1048576: true; the input reads as it did. -/
def wireApartUptoRow : OpenClaim := { program := "ytgkfnbbgohdalaadoor", sum := "26341ee716699ea724ec5e3f1c3c9248e610c06896df2d226060eab8c83cfe61", func := "braid/braidlaw03.WireApart", spec := "wireApart", named := ["braid/wire.sizes", "braid/sums.crcSteps"], apart := false, laid := [("braid/sums.crcSteps", laid_braid_sums_crcSteps), ("braid/wire.sizes", laid_braid_wire_sizes)], narrowed := true }
def WireApartUptoSaid : Prop := wireApartUptoRow.holds Tryd.pinned (OpenSpec.upto wireApartSpec)

/-- 'braidlaw03.WireBack', WHERE WHAT IT READS IS OF BULK AT MOST 1048576: true; the input reads as it did. -/
def wireBackUptoRow : OpenClaim := { program := "ytgkfnbbgohdalaadoor", sum := "26341ee716699ea724ec5e3f1c3c9248e610c06896df2d226060eab8c83cfe61", func := "braid/braidlaw03.WireBack", spec := "wireBack", named := ["braid/wire.sizes", "braid/sums.crcSteps"], apart := false, laid := [("braid/sums.crcSteps", laid_braid_sums_crcSteps), ("braid/wire.sizes", laid_braid_wire_sizes)], narrowed := true }
def WireBackUptoSaid : Prop := wireBackUptoRow.holds Tryd.pinned (OpenSpec.upto wireBackSpec)

/-- 'braidlaw03.WireOneForm', WHERE WHAT IT READS IS OF BULK AT MOST 1048576: true; the input reads as it did. -/
def wireOneFormUptoRow : OpenClaim := { program := "ytgkfnbbgohdalaadoor", sum := "26341ee716699ea724ec5e3f1c3c9248e610c06896df2d226060eab8c83cfe61", func := "braid/braidlaw03.WireOneForm", spec := "wireOneForm", named := ["braid/wire.sizes", "braid/sums.crcSteps"], apart := false, laid := [("braid/sums.crcSteps", laid_braid_sums_crcSteps), ("braid/wire.sizes", laid_braid_wire_sizes)], narrowed := true }
def WireOneFormUptoSaid : Prop := wireOneFormUptoRow.holds Tryd.pinned (OpenSpec.upto wireOneFormSpec)

/-- 'braidlaw03.WireTold', WHERE WHAT IT READS IS OF BULK AT MOST 1048576: true; the input reads as it did. -/
def wireToldUptoRow : OpenClaim := { program := "ytgkfnbbgohdalaadoor", sum := "26341ee716699ea724ec5e3f1c3c9248e610c06896df2d226060eab8c83cfe61", func := "braid/braidlaw03.WireTold", spec := "wireTold", named := ["braid/wire.sizes", "braid/sums.crcSteps"], apart := false, laid := [("braid/sums.crcSteps", laid_braid_sums_crcSteps), ("braid/wire.sizes", laid_braid_wire_sizes)], narrowed := true }
def WireToldUptoSaid : Prop := wireToldUptoRow.holds Tryd.pinned (OpenSpec.upto wireToldSpec)

/-- 'braidlaw03.WireCuts', WHERE WHAT IT READS IS OF BULK AT MOST 1048576: true; the input reads as it did. -/
def wireCutsUptoRow : OpenClaim := { program := "ytgkfnbbgohdalaadoor", sum := "26341ee716699ea724ec5e3f1c3c9248e610c06896df2d226060eab8c83cfe61", func := "braid/braidlaw03.WireCuts", spec := "wireCuts", named := ["braid/wire.sizes", "braid/sums.crcSteps"], apart := false, laid := [("braid/sums.crcSteps", laid_braid_sums_crcSteps), ("braid/wire.sizes", laid_braid_wire_sizes)], narrowed := true }
def WireCutsUptoSaid : Prop := wireCutsUptoRow.holds Tryd.pinned (OpenSpec.upto wireCutsSpec)

/-- 'braidlaw03.WireReads', WHERE WHAT IT READS IS OF BULK AT MOST 1048576: true; the input reads as it did. -/
def wireReadsUptoRow : OpenClaim := { program := "ytgkfnbbgohdalaadoor", sum := "26341ee716699ea724ec5e3f1c3c9248e610c06896df2d226060eab8c83cfe61", func := "braid/braidlaw03.WireReads", spec := "wireReads", named := ["braid/sums.crcSteps", "braid/wire.sizes"], apart := false, laid := [("braid/sums.crcSteps", laid_braid_sums_crcSteps), ("braid/wire.sizes", laid_braid_wire_sizes)], narrowed := true }
def WireReadsUptoSaid : Prop := wireReadsUptoRow.holds Tryd.pinned (OpenSpec.upto wireReadsSpec)

end Rows
end Go.Proofs.YtgkfnbbgohdalaaDoor
