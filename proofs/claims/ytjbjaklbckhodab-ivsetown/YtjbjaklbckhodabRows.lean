/-
  No cell of these rows narrows 'for every input' (looked for: loops, veiled, ifaces, maps, wideKeys, modest, calm, conditions, laid).
  DERIVED. THE GIVEN ROWS OF THIS SEAT. 3 by the template 'for every input the law returns true; each argument reads behind the call as it read before'; 0 by the template 'total and deterministic' (their statements: YtjbjaklbckhodabTotals.lean).
  GIVEN WITH THE SEED: the statements are not yours to turn. If you find one false, say at which input.
  Laid BY PROGRAM, IN A SANDBOX (cutbox-rows.mjs): the forced cells as the released guide's own fill.sh prints them over the translation 913fa1af89ea4d45… (all of the seat's roots in one cut). By AI agents, Wed Nov 11 2026. No macro, syntax, notation, axiom, sorry.
-/
import Derived.Test.YtjbjaklbckhodabChecked
import GoSem.Claim
import GoSem.ClaimJoined
import GoSem.ClaimMapViews
import Derived.JoinedTies
import Derived.KernelRfl
namespace Go.Proofs.Ytjbjaklbckhodab
/- THE CELL 'sum', in the pinned program and in every row, IS THE sha256 OF THE DUMP (.gsa) THAT YtjbjaklbckhodabProg.lean LOADS. Nothing in Lean hashes anything: it is a label: what it is worth is what the hold of that sum in a sandbox is worth. -/
noncomputable def Try.pinned : Pinned := { name := "ytjbjaklbckhodab", sum := "913fa1af89ea4d45b286bf3054f455e6b9bac27a3c932e9185d89b2ffa4439a0", checked := Try.checked }
namespace Rows
def none {H : Type} : Left H := { results := [], args := [] }

/-- 'braidlaw01.IvsetMakes': WHATEVER THE INPUT: true; the input reads as it did. -/
def ivsetMakesSpec : ChangeSpec := { name := "ivsetMakes", fn := fun _ => fun
  | [d] => { results := [.lit (.bool true)], args := [d] }
  | _ => none }
def ivsetMakesRow : OpenClaim := { program := "ytjbjaklbckhodab", sum := "913fa1af89ea4d45b286bf3054f455e6b9bac27a3c932e9185d89b2ffa4439a0", func := "braid/braidlaw01.IvsetMakes", spec := "ivsetMakes", inPlace := ["slices.overlaps[braid/api.Range]"], unfollowed := true, recurses := true, apart := false }
def IvsetMakesSaid : Prop := ivsetMakesRow.holds Try.pinned (OpenSpec.ofChange ivsetMakesSpec)

/-- ITS FALSE NEIGHBOUR: 'it returns false'. Refute it at one input. -/
def ivsetMakesWrong : ChangeSpec := { name := "ivsetMakes", fn := fun _ => fun
  | [d] => { results := [.lit (.bool false)], args := [d] }
  | _ => none }
def IvsetMakesWrongFalsely : Prop := ivsetMakesRow.holds Try.pinned (OpenSpec.ofChange ivsetMakesWrong)

/-- 'braidlaw01.IvsetOwn': WHATEVER THE INPUT: true; the input reads as it did. -/
def ivsetOwnSpec : ChangeSpec := { name := "ivsetOwn", fn := fun _ => fun
  | [d1, d2, d3] => { results := [.lit (.bool true)], args := [d1, d2, d3] }
  | _ => none }
def ivsetOwnRow : OpenClaim := { program := "ytjbjaklbckhodab", sum := "913fa1af89ea4d45b286bf3054f455e6b9bac27a3c932e9185d89b2ffa4439a0", func := "braid/braidlaw01.IvsetOwn", spec := "ivsetOwn", inPlace := ["slices.overlaps[braid/api.Range]"], unfollowed := true, recurses := true, apart := false }
def IvsetOwnSaid : Prop := ivsetOwnRow.holds Try.pinned (OpenSpec.ofChange ivsetOwnSpec)

/-- ITS FALSE NEIGHBOUR: 'it returns false'. Refute it at one input. -/
def ivsetOwnWrong : ChangeSpec := { name := "ivsetOwn", fn := fun _ => fun
  | [d1, d2, d3] => { results := [.lit (.bool false)], args := [d1, d2, d3] }
  | _ => none }
def IvsetOwnWrongFalsely : Prop := ivsetOwnRow.holds Try.pinned (OpenSpec.ofChange ivsetOwnWrong)

/-- 'braidlaw01.IvsetPlays': WHATEVER THE INPUT: true; the input reads as it did. -/
def ivsetPlaysSpec : ChangeSpec := { name := "ivsetPlays", fn := fun _ => fun
  | [d1, d2] => { results := [.lit (.bool true)], args := [d1, d2] }
  | _ => none }
def ivsetPlaysRow : OpenClaim := { program := "ytjbjaklbckhodab", sum := "913fa1af89ea4d45b286bf3054f455e6b9bac27a3c932e9185d89b2ffa4439a0", func := "braid/braidlaw01.IvsetPlays", spec := "ivsetPlays", inPlace := ["slices.overlaps[braid/api.Range]"], unfollowed := true, recurses := true, apart := false }
def IvsetPlaysSaid : Prop := ivsetPlaysRow.holds Try.pinned (OpenSpec.ofChange ivsetPlaysSpec)

/-- ITS FALSE NEIGHBOUR: 'it returns false'. Refute it at one input. -/
def ivsetPlaysWrong : ChangeSpec := { name := "ivsetPlays", fn := fun _ => fun
  | [d1, d2] => { results := [.lit (.bool false)], args := [d1, d2] }
  | _ => none }
def IvsetPlaysWrongFalsely : Prop := ivsetPlaysRow.holds Try.pinned (OpenSpec.ofChange ivsetPlaysWrong)

/- THE SECOND FORM. 'bulk': how many values and letters a reading holds, each counted each time it is reached (what is shared counts as often as it is met; a slice's spare places count too). A statement '..UptoSaid' is the law's where the arguments, and the package variables that the reading takes, are together of bulk at most 1048576: NARROWER than '..Said'. Prove '..Said' where nothing that the law and all that it calls make is longer than what came in: it says more and counts as full. Else prove '..UptoSaid'. A law counts once. -/
mutual
def uptoBulk {H : Type} : DataW H → Nat
  | .lit (.string bytes) => bytes.length + 1
  | .lit _ => 1
  | .nil => 1
  | .ptr d => uptoBulk d + 1
  | .slice elems spare => uptoBulkAll elems + uptoBulkAll spare + 1
  | .agg parts => uptoBulkAll parts + 1
  | .iface _ d => uptoBulk d + 1
  | .map entries => uptoBulkEntries entries + 1
  | .held _ => 1
def uptoBulkAll {H : Type} : List (DataW H) → Nat
  | [] => 0
  | d :: r => uptoBulk d + uptoBulkAll r
def uptoBulkEntries {H : Type} : List (Lit × DataW H) → Nat
  | [] => 0
  | x :: r => uptoBulkEntry x + uptoBulkEntries r
def uptoBulkEntry {H : Type} : Lit × DataW H → Nat
  | (.string bytes, d) => bytes.length + uptoBulk d + 1
  | (_, d) => uptoBulk d + 1
 end
def uptoSmall : (H : Type) → List (DataW H) → Bool := fun _ ds => decide (uptoBulkAll ds ≤ 1048576)
def OpenSpec.upto (s : _root_.Go.ChangeSpec) : _root_.Go.OpenSpec := { _root_.Go.OpenSpec.ofChange s with cond := some uptoSmall }

/-- 'braidlaw01.IvsetMakes', WHERE WHAT IT READS IS OF BULK AT MOST 1048576: true; the input reads as it did. -/
def ivsetMakesUptoRow : OpenClaim := { program := "ytjbjaklbckhodab", sum := "913fa1af89ea4d45b286bf3054f455e6b9bac27a3c932e9185d89b2ffa4439a0", func := "braid/braidlaw01.IvsetMakes", spec := "ivsetMakes", inPlace := ["slices.overlaps[braid/api.Range]"], unfollowed := true, recurses := true, apart := false, narrowed := true }
def IvsetMakesUptoSaid : Prop := ivsetMakesUptoRow.holds Try.pinned (OpenSpec.upto ivsetMakesSpec)

/-- 'braidlaw01.IvsetOwn', WHERE WHAT IT READS IS OF BULK AT MOST 1048576: true; the input reads as it did. -/
def ivsetOwnUptoRow : OpenClaim := { program := "ytjbjaklbckhodab", sum := "913fa1af89ea4d45b286bf3054f455e6b9bac27a3c932e9185d89b2ffa4439a0", func := "braid/braidlaw01.IvsetOwn", spec := "ivsetOwn", inPlace := ["slices.overlaps[braid/api.Range]"], unfollowed := true, recurses := true, apart := false, narrowed := true }
def IvsetOwnUptoSaid : Prop := ivsetOwnUptoRow.holds Try.pinned (OpenSpec.upto ivsetOwnSpec)

/-- 'braidlaw01.IvsetPlays', WHERE WHAT IT READS IS OF BULK AT MOST 1048576: true; the input reads as it did. -/
def ivsetPlaysUptoRow : OpenClaim := { program := "ytjbjaklbckhodab", sum := "913fa1af89ea4d45b286bf3054f455e6b9bac27a3c932e9185d89b2ffa4439a0", func := "braid/braidlaw01.IvsetPlays", spec := "ivsetPlays", inPlace := ["slices.overlaps[braid/api.Range]"], unfollowed := true, recurses := true, apart := false, narrowed := true }
def IvsetPlaysUptoSaid : Prop := ivsetPlaysUptoRow.holds Try.pinned (OpenSpec.upto ivsetPlaysSpec)

end Rows
end Go.Proofs.Ytjbjaklbckhodab
