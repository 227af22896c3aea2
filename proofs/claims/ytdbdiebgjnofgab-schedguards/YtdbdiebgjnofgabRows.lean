/-
  No cell of these rows narrows 'for every input' (looked for: loops, veiled, ifaces, maps, wideKeys, modest, calm, conditions, laid).
  DERIVED. THE GIVEN ROWS OF THIS SEAT. 3 by the template 'for every input the law returns true; each argument reads behind the call as it read before'; 0 by the template 'total and deterministic' (their statements: YtdbdiebgjnofgabTotals.lean).
  GIVEN WITH THE SEED: the statements are not yours to turn. If you find one false, say at which input.
  Laid BY PROGRAM, IN A SANDBOX (cutbox-rows.mjs): the forced cells as the released guide's own fill.sh prints them over the translation 66cb23ed592cd9ad… (all of the seat's roots in one cut). By AI agents, Wed Nov 11 2026. No macro, syntax, notation, axiom, sorry.
-/
import Derived.Test.YtdbdiebgjnofgabChecked
import GoSem.Claim
import GoSem.ClaimJoined
import GoSem.ClaimMapViews
import Derived.JoinedTies
import Derived.KernelRfl
namespace Go.Proofs.Ytdbdiebgjnofgab
/- THE CELL 'sum', in the pinned program and in every row, IS THE sha256 OF THE DUMP (.gsa) THAT YtdbdiebgjnofgabProg.lean LOADS. Nothing in Lean hashes anything: it is a label: what it is worth is what the hold of that sum in a sandbox is worth. -/
noncomputable def Try.pinned : Pinned := { name := "ytdbdiebgjnofgab", sum := "66cb23ed592cd9ad56447eb17bea3a25f1d938890cb43f3b09b83ccce5881d34", checked := Try.checked }
namespace Rows
def none {H : Type} : Left H := { results := [], args := [] }

/-- 'braidlaw10.SchedQuickest': WHATEVER THE INPUT: true; the input reads as it did. -/
def schedQuickestSpec : ChangeSpec := { name := "schedQuickest", fn := fun _ => fun
  | [d] => { results := [.lit (.bool true)], args := [d] }
  | _ => none }
def schedQuickestRow : OpenClaim := { program := "ytdbdiebgjnofgab", sum := "66cb23ed592cd9ad56447eb17bea3a25f1d938890cb43f3b09b83ccce5881d34", func := "braid/braidlaw10.SchedQuickest", spec := "schedQuickest", unfollowed := true, recurses := true, apart := false }
def SchedQuickestSaid : Prop := schedQuickestRow.holds Try.pinned (OpenSpec.ofChange schedQuickestSpec)

/-- ITS FALSE NEIGHBOUR: 'it returns false'. Refute it at one input. -/
def schedQuickestWrong : ChangeSpec := { name := "schedQuickest", fn := fun _ => fun
  | [d] => { results := [.lit (.bool false)], args := [d] }
  | _ => none }
def SchedQuickestWrongFalsely : Prop := schedQuickestRow.holds Try.pinned (OpenSpec.ofChange schedQuickestWrong)

/-- 'braidlaw10.SchedDecides': WHATEVER THE INPUT: true; the input reads as it did. -/
def schedDecidesSpec : ChangeSpec := { name := "schedDecides", fn := fun _ => fun
  | [d1, d2, d3, d4] => { results := [.lit (.bool true)], args := [d1, d2, d3, d4] }
  | _ => none }
def schedDecidesRow : OpenClaim := { program := "ytdbdiebgjnofgab", sum := "66cb23ed592cd9ad56447eb17bea3a25f1d938890cb43f3b09b83ccce5881d34", func := "braid/braidlaw10.SchedDecides", spec := "schedDecides", unfollowed := true, recurses := true, apart := false }
def SchedDecidesSaid : Prop := schedDecidesRow.holds Try.pinned (OpenSpec.ofChange schedDecidesSpec)

/-- ITS FALSE NEIGHBOUR: 'it returns false'. Refute it at one input. -/
def schedDecidesWrong : ChangeSpec := { name := "schedDecides", fn := fun _ => fun
  | [d1, d2, d3, d4] => { results := [.lit (.bool false)], args := [d1, d2, d3, d4] }
  | _ => none }
def SchedDecidesWrongFalsely : Prop := schedDecidesRow.holds Try.pinned (OpenSpec.ofChange schedDecidesWrong)

/-- 'braidlaw10.SchedGuards': WHATEVER THE INPUT: true; the input reads as it did. -/
def schedGuardsSpec : ChangeSpec := { name := "schedGuards", fn := fun _ => fun
  | [d1, d2, d3, d4, d5, d6, d7] => { results := [.lit (.bool true)], args := [d1, d2, d3, d4, d5, d6, d7] }
  | _ => none }
def schedGuardsRow : OpenClaim := { program := "ytdbdiebgjnofgab", sum := "66cb23ed592cd9ad56447eb17bea3a25f1d938890cb43f3b09b83ccce5881d34", func := "braid/braidlaw10.SchedGuards", spec := "schedGuards", unfollowed := true, recurses := true, apart := false }
def SchedGuardsSaid : Prop := schedGuardsRow.holds Try.pinned (OpenSpec.ofChange schedGuardsSpec)

/-- ITS FALSE NEIGHBOUR: 'it returns false'. Refute it at one input. -/
def schedGuardsWrong : ChangeSpec := { name := "schedGuards", fn := fun _ => fun
  | [d1, d2, d3, d4, d5, d6, d7] => { results := [.lit (.bool false)], args := [d1, d2, d3, d4, d5, d6, d7] }
  | _ => none }
def SchedGuardsWrongFalsely : Prop := schedGuardsRow.holds Try.pinned (OpenSpec.ofChange schedGuardsWrong)

/- THE SECOND FORM. 'bulk': how many values and letters a reading holds, each counted each time it is reached (what is shared counts as often as it is met; a slice's spare places count too). A statement '..UptoSaid' is the law's where the arguments, and the package variables that the reading takes, are together of bulk at most 1048576: NARROWER than '..Said'. Prove '..Said' where nothing that the law and all that it calls make is longer than what came in: it says more and counts as full. Else prove '..UptoSaid'. A law counts once. -/
mutual
def uptoBulk {H : Type} : DataW H → Nat
  | .lit (.string bytes) => bytes.length + 1
  | .lit _ => 1
  | .nil => 1
  | .ptr d => uptoBulk d + 1
  | .slice elems spare => uptoBulkAll elems + uptoBulkAll spare + 1
  | .agg parts => uptoBulkAll parts + 1
  | .iface _ d => uptoBulk d + 1
  | .map entries => uptoBulkEntries entries + 1
  | .held _ => 1
def uptoBulkAll {H : Type} : List (DataW H) → Nat
  | [] => 0
  | d :: r => uptoBulk d + uptoBulkAll r
def uptoBulkEntries {H : Type} : List (Lit × DataW H) → Nat
  | [] => 0
  | x :: r => uptoBulkEntry x + uptoBulkEntries r
def uptoBulkEntry {H : Type} : Lit × DataW H → Nat
  | (.string bytes, d) => bytes.length + uptoBulk d + 1
  | (_, d) => uptoBulk d + 1
 end
def uptoSmall : (H : Type) → List (DataW H) → Bool := fun _ ds => decide (uptoBulkAll ds ≤ 1048576)
def OpenSpec.upto (s : _root_.Go.ChangeSpec) : _root_.Go.OpenSpec := { _root_.Go.OpenSpec.ofChange s with cond := some uptoSmall }

/-- 'braidlaw10.SchedQuickest', WHERE WHAT IT READS IS OF BULK AT MOST 1048576: true; the input reads as it did. -/
def schedQuickestUptoRow : OpenClaim := { program := "ytdbdiebgjnofgab", sum := "66cb23ed592cd9ad56447eb17bea3a25f1d938890cb43f3b09b83ccce5881d34", func := "braid/braidlaw10.SchedQuickest", spec := "schedQuickest", unfollowed := true, recurses := true, apart := false, narrowed := true }
def SchedQuickestUptoSaid : Prop := schedQuickestUptoRow.holds Try.pinned (OpenSpec.upto schedQuickestSpec)

/-- 'braidlaw10.SchedDecides', WHERE WHAT IT READS IS OF BULK AT MOST 1048576: true; the input reads as it did. -/
def schedDecidesUptoRow : OpenClaim := { program := "ytdbdiebgjnofgab", sum := "66cb23ed592cd9ad56447eb17bea3a25f1d938890cb43f3b09b83ccce5881d34", func := "braid/braidlaw10.SchedDecides", spec := "schedDecides", unfollowed := true, recurses := true, apart := false, narrowed := true }
def SchedDecidesUptoSaid : Prop := schedDecidesUptoRow.holds Try.pinned (OpenSpec.upto schedDecidesSpec)

/-- 'braidlaw10.SchedGuards', WHERE WHAT IT READS IS OF BULK AT MOST 1048576: true; the input reads as it did. -/
def schedGuardsUptoRow : OpenClaim := { program := "ytdbdiebgjnofgab", sum := "66cb23ed592cd9ad56447eb17bea3a25f1d938890cb43f3b09b83ccce5881d34", func := "braid/braidlaw10.SchedGuards", spec := "schedGuards", unfollowed := true, recurses := true, apart := false, narrowed := true }
def SchedGuardsUptoSaid : Prop := schedGuardsUptoRow.holds Try.pinned (OpenSpec.upto schedGuardsSpec)

end Rows
end Go.Proofs.Ytdbdiebgjnofgab
