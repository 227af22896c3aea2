/-
  No cell of these rows narrows 'for every input' (looked for: loops, veiled, ifaces, maps, wideKeys, modest, calm, conditions, laid).
  DERIVED. THE GIVEN ROWS OF THIS SEAT. 6 by the template 'for every input the law returns true; each argument reads behind the call as it read before'; 0 by the template 'total and deterministic' (their statements: YtkhogbnoincbeaaTotals.lean).
  GIVEN WITH THE SEED: the statements are not yours to turn. If you find one false, say at which input.
  Laid BY PROGRAM, IN A SANDBOX (cutbox-rows.mjs): the forced cells as the released guide's own fill.sh prints them over the translation a27864e35ed8b476… (all of the seat's roots in one cut). By AI agents, Wed Nov 11 2026. No macro, syntax, notation, axiom, sorry.
-/
import Derived.Test.YtkhogbnoincbeaaChecked
import GoSem.Claim
import GoSem.ClaimJoined
import GoSem.ClaimMapViews
import Derived.JoinedTies
import Derived.KernelRfl
namespace Go.Proofs.Ytkhogbnoincbeaa
/- THE CELL 'sum', in the pinned program and in every row, IS THE sha256 OF THE DUMP (.gsa) THAT YtkhogbnoincbeaaProg.lean LOADS. Nothing in Lean hashes anything: it is a label: what it is worth is what the hold of that sum in a sandbox is worth. -/
noncomputable def Try.pinned : Pinned := { name := "ytkhogbnoincbeaa", sum := "a27864e35ed8b47634593404a97a6c9e2a2073c050f50d3b4be674c1c63b6693", checked := Try.checked }
namespace Rows
def none {H : Type} : Left H := { results := [], args := [] }

/-- 'braidlaw17.MuxwireWrites': WHATEVER THE INPUT: true; the input reads as it did. -/
def muxwireWritesSpec : ChangeSpec := { name := "muxwireWrites", fn := fun _ => fun
  | [d] => { results := [.lit (.bool true)], args := [d] }
  | _ => none }
def muxwireWritesRow : OpenClaim := { program := "ytkhogbnoincbeaa", sum := "a27864e35ed8b47634593404a97a6c9e2a2073c050f50d3b4be674c1c63b6693", func := "braid/braidlaw17.MuxwireWrites", spec := "muxwireWrites", apart := false }
def MuxwireWritesSaid : Prop := muxwireWritesRow.holds Try.pinned (OpenSpec.ofChange muxwireWritesSpec)

/-- ITS FALSE NEIGHBOUR: 'it returns false'. Refute it at one input. -/
def muxwireWritesWrong : ChangeSpec := { name := "muxwireWrites", fn := fun _ => fun
  | [d] => { results := [.lit (.bool false)], args := [d] }
  | _ => none }
def MuxwireWritesWrongFalsely : Prop := muxwireWritesRow.holds Try.pinned (OpenSpec.ofChange muxwireWritesWrong)

/-- 'braidlaw17.MuxwireReads': WHATEVER THE INPUT: true; the input reads as it did. -/
def muxwireReadsSpec : ChangeSpec := { name := "muxwireReads", fn := fun _ => fun
  | [d] => { results := [.lit (.bool true)], args := [d] }
  | _ => none }
def muxwireReadsRow : OpenClaim := { program := "ytkhogbnoincbeaa", sum := "a27864e35ed8b47634593404a97a6c9e2a2073c050f50d3b4be674c1c63b6693", func := "braid/braidlaw17.MuxwireReads", spec := "muxwireReads", unfollowed := true, recurses := true, apart := false }
def MuxwireReadsSaid : Prop := muxwireReadsRow.holds Try.pinned (OpenSpec.ofChange muxwireReadsSpec)

/-- ITS FALSE NEIGHBOUR: 'it returns false'. Refute it at one input. -/
def muxwireReadsWrong : ChangeSpec := { name := "muxwireReads", fn := fun _ => fun
  | [d] => { results := [.lit (.bool false)], args := [d] }
  | _ => none }
def MuxwireReadsWrongFalsely : Prop := muxwireReadsRow.holds Try.pinned (OpenSpec.ofChange muxwireReadsWrong)

/-- 'braidlaw17.MuxwireBack': WHATEVER THE INPUT: true; the input reads as it did. -/
def muxwireBackSpec : ChangeSpec := { name := "muxwireBack", fn := fun _ => fun
  | [d1, d2] => { results := [.lit (.bool true)], args := [d1, d2] }
  | _ => none }
def muxwireBackRow : OpenClaim := { program := "ytkhogbnoincbeaa", sum := "a27864e35ed8b47634593404a97a6c9e2a2073c050f50d3b4be674c1c63b6693", func := "braid/braidlaw17.MuxwireBack", spec := "muxwireBack", unfollowed := true, recurses := true, apart := false }
def MuxwireBackSaid : Prop := muxwireBackRow.holds Try.pinned (OpenSpec.ofChange muxwireBackSpec)

/-- ITS FALSE NEIGHBOUR: 'it returns false'. Refute it at one input. -/
def muxwireBackWrong : ChangeSpec := { name := "muxwireBack", fn := fun _ => fun
  | [d1, d2] => { results := [.lit (.bool false)], args := [d1, d2] }
  | _ => none }
def MuxwireBackWrongFalsely : Prop := muxwireBackRow.holds Try.pinned (OpenSpec.ofChange muxwireBackWrong)

/-- 'braidlaw17.MuxwireOneForm': WHATEVER THE INPUT: true; the input reads as it did. -/
def muxwireOneFormSpec : ChangeSpec := { name := "muxwireOneForm", fn := fun _ => fun
  | [d1, d2] => { results := [.lit (.bool true)], args := [d1, d2] }
  | _ => none }
def muxwireOneFormRow : OpenClaim := { program := "ytkhogbnoincbeaa", sum := "a27864e35ed8b47634593404a97a6c9e2a2073c050f50d3b4be674c1c63b6693", func := "braid/braidlaw17.MuxwireOneForm", spec := "muxwireOneForm", unfollowed := true, recurses := true, apart := false }
def MuxwireOneFormSaid : Prop := muxwireOneFormRow.holds Try.pinned (OpenSpec.ofChange muxwireOneFormSpec)

/-- ITS FALSE NEIGHBOUR: 'it returns false'. Refute it at one input. -/
def muxwireOneFormWrong : ChangeSpec := { name := "muxwireOneForm", fn := fun _ => fun
  | [d1, d2] => { results := [.lit (.bool false)], args := [d1, d2] }
  | _ => none }
def MuxwireOneFormWrongFalsely : Prop := muxwireOneFormRow.holds Try.pinned (OpenSpec.ofChange muxwireOneFormWrong)

/-- 'braidlaw17.MuxwireCuts': WHATEVER THE INPUT: true; the input reads as it did. -/
def muxwireCutsSpec : ChangeSpec := { name := "muxwireCuts", fn := fun _ => fun
  | [d1, d2] => { results := [.lit (.bool true)], args := [d1, d2] }
  | _ => none }
def muxwireCutsRow : OpenClaim := { program := "ytkhogbnoincbeaa", sum := "a27864e35ed8b47634593404a97a6c9e2a2073c050f50d3b4be674c1c63b6693", func := "braid/braidlaw17.MuxwireCuts", spec := "muxwireCuts", unfollowed := true, recurses := true, apart := false }
def MuxwireCutsSaid : Prop := muxwireCutsRow.holds Try.pinned (OpenSpec.ofChange muxwireCutsSpec)

/-- ITS FALSE NEIGHBOUR: 'it returns false'. Refute it at one input. -/
def muxwireCutsWrong : ChangeSpec := { name := "muxwireCuts", fn := fun _ => fun
  | [d1, d2] => { results := [.lit (.bool false)], args := [d1, d2] }
  | _ => none }
def MuxwireCutsWrongFalsely : Prop := muxwireCutsRow.holds Try.pinned (OpenSpec.ofChange muxwireCutsWrong)

/-- 'braidlaw17.MuxwireRows': WHATEVER THE INPUT: true; the input reads as it did. -/
def muxwireRowsSpec : ChangeSpec := { name := "muxwireRows", fn := fun _ => fun
  | [d] => { results := [.lit (.bool true)], args := [d] }
  | _ => none }
def muxwireRowsRow : OpenClaim := { program := "ytkhogbnoincbeaa", sum := "a27864e35ed8b47634593404a97a6c9e2a2073c050f50d3b4be674c1c63b6693", func := "braid/braidlaw17.MuxwireRows", spec := "muxwireRows", unfollowed := true, recurses := true, apart := false }
def MuxwireRowsSaid : Prop := muxwireRowsRow.holds Try.pinned (OpenSpec.ofChange muxwireRowsSpec)

/-- ITS FALSE NEIGHBOUR: 'it returns false'. Refute it at one input. -/
def muxwireRowsWrong : ChangeSpec := { name := "muxwireRows", fn := fun _ => fun
  | [d] => { results := [.lit (.bool false)], args := [d] }
  | _ => none }
def MuxwireRowsWrongFalsely : Prop := muxwireRowsRow.holds Try.pinned (OpenSpec.ofChange muxwireRowsWrong)

/- THE SECOND FORM. 'bulk': how many values and letters a reading holds, each counted each time it is reached (what is shared counts as often as it is met; a slice's spare places count too). A statement '..UptoSaid' is the law's where the arguments, and the package variables that the reading takes, are together of bulk at most 1048576: NARROWER than '..Said'. Prove '..Said' where nothing that the law and all that it calls make is longer than what came in: it says more and counts as full. Else prove '..UptoSaid'. A law counts once. -/
mutual
def uptoBulk {H : Type} : DataW H → Nat
  | .lit (.string bytes) => bytes.length + 1
  | .lit _ => 1
  | .nil => 1
  | .ptr d => uptoBulk d + 1
  | .slice elems spare => uptoBulkAll elems + uptoBulkAll spare + 1
  | .agg parts => uptoBulkAll parts + 1
  | .iface _ d => uptoBulk d + 1
  | .map entries => uptoBulkEntries entries + 1
  | .held _ => 1
def uptoBulkAll {H : Type} : List (DataW H) → Nat
  | [] => 0
  | d :: r => uptoBulk d + uptoBulkAll r
def uptoBulkEntries {H : Type} : List (Lit × DataW H) → Nat
  | [] => 0
  | x :: r => uptoBulkEntry x + uptoBulkEntries r
def uptoBulkEntry {H : Type} : Lit × DataW H → Nat
  | (.string bytes, d) => bytes.length + uptoBulk d + 1
  | (_, d) => uptoBulk d + 1
 end
def uptoSmall : (H : Type) → List (DataW H) → Bool := fun _ ds => decide (uptoBulkAll ds ≤ 1048576)
def OpenSpec.upto (s : _root_.Go.ChangeSpec) : _root_.Go.OpenSpec := { _root_.Go.OpenSpec.ofChange s with cond := some uptoSmall }

/-- 'braidlaw17.MuxwireWrites', WHERE WHAT IT READS IS OF BULK AT MOST 1048576: true; the input reads as it did. -/
def muxwireWritesUptoRow : OpenClaim := { program := "ytkhogbnoincbeaa", sum := "a27864e35ed8b47634593404a97a6c9e2a2073c050f50d3b4be674c1c63b6693", func := "braid/braidlaw17.MuxwireWrites", spec := "muxwireWrites", apart := false, narrowed := true }
def MuxwireWritesUptoSaid : Prop := muxwireWritesUptoRow.holds Try.pinned (OpenSpec.upto muxwireWritesSpec)

/-- 'braidlaw17.MuxwireReads', WHERE WHAT IT READS IS OF BULK AT MOST 1048576: true; the input reads as it did. -/
def muxwireReadsUptoRow : OpenClaim := { program := "ytkhogbnoincbeaa", sum := "a27864e35ed8b47634593404a97a6c9e2a2073c050f50d3b4be674c1c63b6693", func := "braid/braidlaw17.MuxwireReads", spec := "muxwireReads", unfollowed := true, recurses := true, apart := false, narrowed := true }
def MuxwireReadsUptoSaid : Prop := muxwireReadsUptoRow.holds Try.pinned (OpenSpec.upto muxwireReadsSpec)

/-- 'braidlaw17.MuxwireBack', WHERE WHAT IT READS IS OF BULK AT MOST 1048576: true; the input reads as it did. -/
def muxwireBackUptoRow : OpenClaim := { program := "ytkhogbnoincbeaa", sum := "a27864e35ed8b47634593404a97a6c9e2a2073c050f50d3b4be674c1c63b6693", func := "braid/braidlaw17.MuxwireBack", spec := "muxwireBack", unfollowed := true, recurses := true, apart := false, narrowed := true }
def MuxwireBackUptoSaid : Prop := muxwireBackUptoRow.holds Try.pinned (OpenSpec.upto muxwireBackSpec)

/-- 'braidlaw17.MuxwireOneForm', WHERE WHAT IT READS IS OF BULK AT MOST 1048576: true; the input reads as it did. -/
def muxwireOneFormUptoRow : OpenClaim := { program := "ytkhogbnoincbeaa", sum := "a27864e35ed8b47634593404a97a6c9e2a2073c050f50d3b4be674c1c63b6693", func := "braid/braidlaw17.MuxwireOneForm", spec := "muxwireOneForm", unfollowed := true, recurses := true, apart := false, narrowed := true }
def MuxwireOneFormUptoSaid : Prop := muxwireOneFormUptoRow.holds Try.pinned (OpenSpec.upto muxwireOneFormSpec)

/-- 'braidlaw17.MuxwireCuts', WHERE WHAT IT READS IS OF BULK AT MOST 1048576: true; the input reads as it did. -/
def muxwireCutsUptoRow : OpenClaim := { program := "ytkhogbnoincbeaa", sum := "a27864e35ed8b47634593404a97a6c9e2a2073c050f50d3b4be674c1c63b6693", func := "braid/braidlaw17.MuxwireCuts", spec := "muxwireCuts", unfollowed := true, recurses := true, apart := false, narrowed := true }
def MuxwireCutsUptoSaid : Prop := muxwireCutsUptoRow.holds Try.pinned (OpenSpec.upto muxwireCutsSpec)

/-- 'braidlaw17.MuxwireRows', WHERE WHAT IT READS IS OF BULK AT MOST 1048576: true; the input reads as it did. -/
def muxwireRowsUptoRow : OpenClaim := { program := "ytkhogbnoincbeaa", sum := "a27864e35ed8b47634593404a97a6c9e2a2073c050f50d3b4be674c1c63b6693", func := "braid/braidlaw17.MuxwireRows", spec := "muxwireRows", unfollowed := true, recurses := true, apart := false, narrowed := true }
def MuxwireRowsUptoSaid : Prop := muxwireRowsUptoRow.holds Try.pinned (OpenSpec.upto muxwireRowsSpec)

end Rows
end Go.Proofs.Ytkhogbnoincbeaa
