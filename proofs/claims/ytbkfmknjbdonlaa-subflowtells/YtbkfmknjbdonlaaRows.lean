/-
  No cell of these rows narrows 'for every input' (looked for: loops, veiled, ifaces, maps, wideKeys, modest, calm, conditions, laid).
  DERIVED. THE GIVEN ROWS OF THIS SEAT. 6 by the template 'for every input the law returns true; each argument reads behind the call as it read before'; 0 by the template 'total and deterministic' (their statements: YtbkfmknjbdonlaaTotals.lean).
  GIVEN WITH THE SEED: the statements are not yours to turn. If you find one false, say at which input.
  Laid BY PROGRAM, IN A SANDBOX (cutbox-rows.mjs): the forced cells as the released guide's own fill.sh prints them over the translation ab3d8cd2dc9495da… (all of the seat's roots in one cut). By AI agents, Wed Nov 11 2026. No macro, syntax, notation, axiom, sorry.
-/
import Derived.Test.YtbkfmknjbdonlaaChecked
import GoSem.Claim
import GoSem.ClaimJoined
import GoSem.ClaimMapViews
import Derived.JoinedTies
import Derived.KernelRfl
namespace Go.Proofs.Ytbkfmknjbdonlaa
/- THE CELL 'sum', in the pinned program and in every row, IS THE sha256 OF THE DUMP (.gsa) THAT YtbkfmknjbdonlaaProg.lean LOADS. Nothing in Lean hashes anything: it is a label: what it is worth is what the hold of that sum in a sandbox is worth. -/
noncomputable def Try.pinned : Pinned := { name := "ytbkfmknjbdonlaa", sum := "ab3d8cd2dc9495dade9bdc17073f0b4623261372dbe17b18b2caeb40b2f692d2", checked := Try.checked }
namespace Rows
def none {H : Type} : Left H := { results := [], args := [] }

/-- 'braidlaw07.SubflowSeen': WHATEVER THE INPUT: true; the input reads as it did. -/
def subflowSeenSpec : ChangeSpec := { name := "subflowSeen", fn := fun _ => fun
  | [d1, d2] => { results := [.lit (.bool true)], args := [d1, d2] }
  | _ => none }
def subflowSeenRow : OpenClaim := { program := "ytbkfmknjbdonlaa", sum := "ab3d8cd2dc9495dade9bdc17073f0b4623261372dbe17b18b2caeb40b2f692d2", func := "braid/braidlaw07.SubflowSeen", spec := "subflowSeen", inPlace := ["slices.overlaps[braid/api.Range]"], unfollowed := true, recurses := true, apart := false }
def SubflowSeenSaid : Prop := subflowSeenRow.holds Try.pinned (OpenSpec.ofChange subflowSeenSpec)

/-- ITS FALSE NEIGHBOUR: 'it returns false'. Refute it at one input. -/
def subflowSeenWrong : ChangeSpec := { name := "subflowSeen", fn := fun _ => fun
  | [d1, d2] => { results := [.lit (.bool false)], args := [d1, d2] }
  | _ => none }
def SubflowSeenWrongFalsely : Prop := subflowSeenRow.holds Try.pinned (OpenSpec.ofChange subflowSeenWrong)

/-- 'braidlaw07.SubflowDies': WHATEVER THE INPUT: true; the input reads as it did. -/
def subflowDiesSpec : ChangeSpec := { name := "subflowDies", fn := fun _ => fun
  | [d1, d2] => { results := [.lit (.bool true)], args := [d1, d2] }
  | _ => none }
def subflowDiesRow : OpenClaim := { program := "ytbkfmknjbdonlaa", sum := "ab3d8cd2dc9495dade9bdc17073f0b4623261372dbe17b18b2caeb40b2f692d2", func := "braid/braidlaw07.SubflowDies", spec := "subflowDies", unfollowed := true, recurses := true, apart := false }
def SubflowDiesSaid : Prop := subflowDiesRow.holds Try.pinned (OpenSpec.ofChange subflowDiesSpec)

/-- ITS FALSE NEIGHBOUR: 'it returns false'. Refute it at one input. -/
def subflowDiesWrong : ChangeSpec := { name := "subflowDies", fn := fun _ => fun
  | [d1, d2] => { results := [.lit (.bool false)], args := [d1, d2] }
  | _ => none }
def SubflowDiesWrongFalsely : Prop := subflowDiesRow.holds Try.pinned (OpenSpec.ofChange subflowDiesWrong)

/-- 'braidlaw07.SubflowLosses': WHATEVER THE INPUT: true; the input reads as it did. -/
def subflowLossesSpec : ChangeSpec := { name := "subflowLosses", fn := fun _ => fun
  | [d1, d2] => { results := [.lit (.bool true)], args := [d1, d2] }
  | _ => none }
def subflowLossesRow : OpenClaim := { program := "ytbkfmknjbdonlaa", sum := "ab3d8cd2dc9495dade9bdc17073f0b4623261372dbe17b18b2caeb40b2f692d2", func := "braid/braidlaw07.SubflowLosses", spec := "subflowLosses", inPlace := ["slices.overlaps[braid/api.Range]"], unfollowed := true, recurses := true, apart := false }
def SubflowLossesSaid : Prop := subflowLossesRow.holds Try.pinned (OpenSpec.ofChange subflowLossesSpec)

/-- ITS FALSE NEIGHBOUR: 'it returns false'. Refute it at one input. -/
def subflowLossesWrong : ChangeSpec := { name := "subflowLosses", fn := fun _ => fun
  | [d1, d2] => { results := [.lit (.bool false)], args := [d1, d2] }
  | _ => none }
def SubflowLossesWrongFalsely : Prop := subflowLossesRow.holds Try.pinned (OpenSpec.ofChange subflowLossesWrong)

/-- 'braidlaw07.SubflowOrder': WHATEVER THE INPUT: true; the input reads as it did. -/
def subflowOrderSpec : ChangeSpec := { name := "subflowOrder", fn := fun _ => fun
  | [d1, d2] => { results := [.lit (.bool true)], args := [d1, d2] }
  | _ => none }
def subflowOrderRow : OpenClaim := { program := "ytbkfmknjbdonlaa", sum := "ab3d8cd2dc9495dade9bdc17073f0b4623261372dbe17b18b2caeb40b2f692d2", func := "braid/braidlaw07.SubflowOrder", spec := "subflowOrder", inPlace := ["slices.overlaps[braid/api.Range]"], unfollowed := true, recurses := true, apart := false }
def SubflowOrderSaid : Prop := subflowOrderRow.holds Try.pinned (OpenSpec.ofChange subflowOrderSpec)

/-- ITS FALSE NEIGHBOUR: 'it returns false'. Refute it at one input. -/
def subflowOrderWrong : ChangeSpec := { name := "subflowOrder", fn := fun _ => fun
  | [d1, d2] => { results := [.lit (.bool false)], args := [d1, d2] }
  | _ => none }
def SubflowOrderWrongFalsely : Prop := subflowOrderRow.holds Try.pinned (OpenSpec.ofChange subflowOrderWrong)

/-- 'braidlaw07.SubflowTells': WHATEVER THE INPUT: true; the input reads as it did. -/
def subflowTellsSpec : ChangeSpec := { name := "subflowTells", fn := fun _ => fun
  | [d] => { results := [.lit (.bool true)], args := [d] }
  | _ => none }
def subflowTellsRow : OpenClaim := { program := "ytbkfmknjbdonlaa", sum := "ab3d8cd2dc9495dade9bdc17073f0b4623261372dbe17b18b2caeb40b2f692d2", func := "braid/braidlaw07.SubflowTells", spec := "subflowTells", inPlace := ["slices.overlaps[braid/api.Range]"], unfollowed := true, recurses := true, apart := false }
def SubflowTellsSaid : Prop := subflowTellsRow.holds Try.pinned (OpenSpec.ofChange subflowTellsSpec)

/-- ITS FALSE NEIGHBOUR: 'it returns false'. Refute it at one input. -/
def subflowTellsWrong : ChangeSpec := { name := "subflowTells", fn := fun _ => fun
  | [d] => { results := [.lit (.bool false)], args := [d] }
  | _ => none }
def SubflowTellsWrongFalsely : Prop := subflowTellsRow.holds Try.pinned (OpenSpec.ofChange subflowTellsWrong)

/-- 'braidlaw07.SubflowOnce': WHATEVER THE INPUT: true; the input reads as it did. -/
def subflowOnceSpec : ChangeSpec := { name := "subflowOnce", fn := fun _ => fun
  | [d1, d2] => { results := [.lit (.bool true)], args := [d1, d2] }
  | _ => none }
def subflowOnceRow : OpenClaim := { program := "ytbkfmknjbdonlaa", sum := "ab3d8cd2dc9495dade9bdc17073f0b4623261372dbe17b18b2caeb40b2f692d2", func := "braid/braidlaw07.SubflowOnce", spec := "subflowOnce", inPlace := ["slices.overlaps[braid/api.Range]"], unfollowed := true, recurses := true, apart := false }
def SubflowOnceSaid : Prop := subflowOnceRow.holds Try.pinned (OpenSpec.ofChange subflowOnceSpec)

/-- ITS FALSE NEIGHBOUR: 'it returns false'. Refute it at one input. -/
def subflowOnceWrong : ChangeSpec := { name := "subflowOnce", fn := fun _ => fun
  | [d1, d2] => { results := [.lit (.bool false)], args := [d1, d2] }
  | _ => none }
def SubflowOnceWrongFalsely : Prop := subflowOnceRow.holds Try.pinned (OpenSpec.ofChange subflowOnceWrong)

/- THE SECOND FORM. 'bulk': how many values and letters a reading holds, each counted each time it is reached (what is shared counts as often as it is met; a slice's spare places count too). A statement '..UptoSaid' is the law's where the arguments, and the package variables that the reading takes, are together of bulk at most 1048576: NARROWER than '..Said'. Prove '..Said' where nothing that the law and all that it calls make is longer than what came in: it says more and counts as full. Else prove '..UptoSaid'. A law counts once. -/
mutual
def uptoBulk {H : Type} : DataW H → Nat
  | .lit (.string bytes) => bytes.length + 1
  | .lit _ => 1
  | .nil => 1
  | .ptr d => uptoBulk d + 1
  | .slice elems spare => uptoBulkAll elems + uptoBulkAll spare + 1
  | .agg parts => uptoBulkAll parts + 1
  | .iface _ d => uptoBulk d + 1
  | .map entries => uptoBulkEntries entries + 1
  | .held _ => 1
def uptoBulkAll {H : Type} : List (DataW H) → Nat
  | [] => 0
  | d :: r => uptoBulk d + uptoBulkAll r
def uptoBulkEntries {H : Type} : List (Lit × DataW H) → Nat
  | [] => 0
  | x :: r => uptoBulkEntry x + uptoBulkEntries r
def uptoBulkEntry {H : Type} : Lit × DataW H → Nat
  | (.string bytes, d) => bytes.length + uptoBulk d + 1
  | (_, d) => uptoBulk d + 1
 end
def uptoSmall : (H : Type) → List (DataW H) → Bool := fun _ ds => decide (uptoBulkAll ds ≤ 1048576)
def OpenSpec.upto (s : _root_.Go.ChangeSpec) : _root_.Go.OpenSpec := { _root_.Go.OpenSpec.ofChange s with cond := some uptoSmall }

/-- 'braidlaw07.SubflowSeen', WHERE WHAT IT READS IS OF BULK AT MOST 1048576: true; the input reads as it did. -/
def subflowSeenUptoRow : OpenClaim := { program := "ytbkfmknjbdonlaa", sum := "ab3d8cd2dc9495dade9bdc17073f0b4623261372dbe17b18b2caeb40b2f692d2", func := "braid/braidlaw07.SubflowSeen", spec := "subflowSeen", inPlace := ["slices.overlaps[braid/api.Range]"], unfollowed := true, recurses := true, apart := false, narrowed := true }
def SubflowSeenUptoSaid : Prop := subflowSeenUptoRow.holds Try.pinned (OpenSpec.upto subflowSeenSpec)

/-- 'braidlaw07.SubflowDies', WHERE WHAT IT READS IS OF BULK AT MOST 1048576: true; the input reads as it did. -/
def subflowDiesUptoRow : OpenClaim := { program := "ytbkfmknjbdonlaa", sum := "ab3d8cd2dc9495dade9bdc17073f0b4623261372dbe17b18b2caeb40b2f692d2", func := "braid/braidlaw07.SubflowDies", spec := "subflowDies", unfollowed := true, recurses := true, apart := false, narrowed := true }
def SubflowDiesUptoSaid : Prop := subflowDiesUptoRow.holds Try.pinned (OpenSpec.upto subflowDiesSpec)

/-- 'braidlaw07.SubflowLosses', WHERE WHAT IT READS IS OF BULK AT MOST 1048576: true; the input reads as it did. -/
def subflowLossesUptoRow : OpenClaim := { program := "ytbkfmknjbdonlaa", sum := "ab3d8cd2dc9495dade9bdc17073f0b4623261372dbe17b18b2caeb40b2f692d2", func := "braid/braidlaw07.SubflowLosses", spec := "subflowLosses", inPlace := ["slices.overlaps[braid/api.Range]"], unfollowed := true, recurses := true, apart := false, narrowed := true }
def SubflowLossesUptoSaid : Prop := subflowLossesUptoRow.holds Try.pinned (OpenSpec.upto subflowLossesSpec)

/-- 'braidlaw07.SubflowOrder', WHERE WHAT IT READS IS OF BULK AT MOST 1048576: true; the input reads as it did. -/
def subflowOrderUptoRow : OpenClaim := { program := "ytbkfmknjbdonlaa", sum := "ab3d8cd2dc9495dade9bdc17073f0b4623261372dbe17b18b2caeb40b2f692d2", func := "braid/braidlaw07.SubflowOrder", spec := "subflowOrder", inPlace := ["slices.overlaps[braid/api.Range]"], unfollowed := true, recurses := true, apart := false, narrowed := true }
def SubflowOrderUptoSaid : Prop := subflowOrderUptoRow.holds Try.pinned (OpenSpec.upto subflowOrderSpec)

/-- 'braidlaw07.SubflowTells', WHERE WHAT IT READS IS OF BULK AT MOST 1048576: true; the input reads as it did. -/
def subflowTellsUptoRow : OpenClaim := { program := "ytbkfmknjbdonlaa", sum := "ab3d8cd2dc9495dade9bdc17073f0b4623261372dbe17b18b2caeb40b2f692d2", func := "braid/braidlaw07.SubflowTells", spec := "subflowTells", inPlace := ["slices.overlaps[braid/api.Range]"], unfollowed := true, recurses := true, apart := false, narrowed := true }
def SubflowTellsUptoSaid : Prop := subflowTellsUptoRow.holds Try.pinned (OpenSpec.upto subflowTellsSpec)

/-- 'braidlaw07.SubflowOnce', WHERE WHAT IT READS IS OF BULK AT MOST 1048576: true; the input reads as it did. -/
def subflowOnceUptoRow : OpenClaim := { program := "ytbkfmknjbdonlaa", sum := "ab3d8cd2dc9495dade9bdc17073f0b4623261372dbe17b18b2caeb40b2f692d2", func := "braid/braidlaw07.SubflowOnce", spec := "subflowOnce", inPlace := ["slices.overlaps[braid/api.Range]"], unfollowed := true, recurses := true, apart := false, narrowed := true }
def SubflowOnceUptoSaid : Prop := subflowOnceUptoRow.holds Try.pinned (OpenSpec.upto subflowOnceSpec)

end Rows
end Go.Proofs.Ytbkfmknjbdonlaa
