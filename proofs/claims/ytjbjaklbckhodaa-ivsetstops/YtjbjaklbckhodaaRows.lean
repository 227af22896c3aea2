/-
  No cell of these rows narrows 'for every input' (looked for: loops, veiled, ifaces, maps, wideKeys, modest, calm, conditions, laid).
  DERIVED. THE GIVEN ROWS OF THIS SEAT. 6 by the template 'for every input the law returns true; each argument reads behind the call as it read before'; 0 by the template 'total and deterministic' (their statements: YtjbjaklbckhodaaTotals.lean).
  GIVEN WITH THE SEED: the statements are not yours to turn. If you find one false, say at which input.
  Laid BY PROGRAM, IN A SANDBOX (cutbox-rows.mjs): the forced cells as the released guide's own fill.sh prints them over the translation 67ee87f147bc371a… (all of the seat's roots in one cut). By AI agents, Wed Nov 11 2026. No macro, syntax, notation, axiom, sorry.
-/
import Derived.Test.YtjbjaklbckhodaaChecked
import GoSem.Claim
import GoSem.ClaimJoined
import GoSem.ClaimMapViews
import Derived.JoinedTies
import Derived.KernelRfl
namespace Go.Proofs.Ytjbjaklbckhodaa
/- THE CELL 'sum', in the pinned program and in every row, IS THE sha256 OF THE DUMP (.gsa) THAT YtjbjaklbckhodaaProg.lean LOADS. Nothing in Lean hashes anything: it is a label: what it is worth is what the hold of that sum in a sandbox is worth. -/
noncomputable def Try.pinned : Pinned := { name := "ytjbjaklbckhodaa", sum := "67ee87f147bc371a32f00f8cdea0cb22b1b0e996c43b8d858c03892216735102", checked := Try.checked }
namespace Rows
def none {H : Type} : Left H := { results := [], args := [] }

/-- 'braidlaw01.IvsetOrder': WHATEVER THE INPUT: true; the input reads as it did. -/
def ivsetOrderSpec : ChangeSpec := { name := "ivsetOrder", fn := fun _ => fun
  | [d1, d2, d3] => { results := [.lit (.bool true)], args := [d1, d2, d3] }
  | _ => none }
def ivsetOrderRow : OpenClaim := { program := "ytjbjaklbckhodaa", sum := "67ee87f147bc371a32f00f8cdea0cb22b1b0e996c43b8d858c03892216735102", func := "braid/braidlaw01.IvsetOrder", spec := "ivsetOrder", inPlace := ["slices.overlaps[braid/api.Range]"], unfollowed := true, recurses := true, apart := false }
def IvsetOrderSaid : Prop := ivsetOrderRow.holds Try.pinned (OpenSpec.ofChange ivsetOrderSpec)

/-- ITS FALSE NEIGHBOUR: 'it returns false'. Refute it at one input. -/
def ivsetOrderWrong : ChangeSpec := { name := "ivsetOrder", fn := fun _ => fun
  | [d1, d2, d3] => { results := [.lit (.bool false)], args := [d1, d2, d3] }
  | _ => none }
def IvsetOrderWrongFalsely : Prop := ivsetOrderRow.holds Try.pinned (OpenSpec.ofChange ivsetOrderWrong)

/-- 'braidlaw01.IvsetStops': WHATEVER THE INPUT: true; the input reads as it did. -/
def ivsetStopsSpec : ChangeSpec := { name := "ivsetStops", fn := fun _ => fun
  | [d1, d2, d3] => { results := [.lit (.bool true)], args := [d1, d2, d3] }
  | _ => none }
def ivsetStopsRow : OpenClaim := { program := "ytjbjaklbckhodaa", sum := "67ee87f147bc371a32f00f8cdea0cb22b1b0e996c43b8d858c03892216735102", func := "braid/braidlaw01.IvsetStops", spec := "ivsetStops", inPlace := ["slices.overlaps[braid/api.Range]"], unfollowed := true, recurses := true, apart := false }
def IvsetStopsSaid : Prop := ivsetStopsRow.holds Try.pinned (OpenSpec.ofChange ivsetStopsSpec)

/-- ITS FALSE NEIGHBOUR: 'it returns false'. Refute it at one input. -/
def ivsetStopsWrong : ChangeSpec := { name := "ivsetStops", fn := fun _ => fun
  | [d1, d2, d3] => { results := [.lit (.bool false)], args := [d1, d2, d3] }
  | _ => none }
def IvsetStopsWrongFalsely : Prop := ivsetStopsRow.holds Try.pinned (OpenSpec.ofChange ivsetStopsWrong)

/-- 'braidlaw01.IvsetForm': WHATEVER THE INPUT: true; the input reads as it did. -/
def ivsetFormSpec : ChangeSpec := { name := "ivsetForm", fn := fun _ => fun
  | [d] => { results := [.lit (.bool true)], args := [d] }
  | _ => none }
def ivsetFormRow : OpenClaim := { program := "ytjbjaklbckhodaa", sum := "67ee87f147bc371a32f00f8cdea0cb22b1b0e996c43b8d858c03892216735102", func := "braid/braidlaw01.IvsetForm", spec := "ivsetForm", inPlace := ["slices.overlaps[braid/api.Range]"], unfollowed := true, recurses := true, apart := false }
def IvsetFormSaid : Prop := ivsetFormRow.holds Try.pinned (OpenSpec.ofChange ivsetFormSpec)

/-- ITS FALSE NEIGHBOUR: 'it returns false'. Refute it at one input. -/
def ivsetFormWrong : ChangeSpec := { name := "ivsetForm", fn := fun _ => fun
  | [d] => { results := [.lit (.bool false)], args := [d] }
  | _ => none }
def IvsetFormWrongFalsely : Prop := ivsetFormRow.holds Try.pinned (OpenSpec.ofChange ivsetFormWrong)

/-- 'braidlaw01.IvsetGaps': WHATEVER THE INPUT: true; the input reads as it did. -/
def ivsetGapsSpec : ChangeSpec := { name := "ivsetGaps", fn := fun _ => fun
  | [d1, d2, d3] => { results := [.lit (.bool true)], args := [d1, d2, d3] }
  | _ => none }
def ivsetGapsRow : OpenClaim := { program := "ytjbjaklbckhodaa", sum := "67ee87f147bc371a32f00f8cdea0cb22b1b0e996c43b8d858c03892216735102", func := "braid/braidlaw01.IvsetGaps", spec := "ivsetGaps", inPlace := ["slices.overlaps[braid/api.Range]"], unfollowed := true, recurses := true, apart := false }
def IvsetGapsSaid : Prop := ivsetGapsRow.holds Try.pinned (OpenSpec.ofChange ivsetGapsSpec)

/-- ITS FALSE NEIGHBOUR: 'it returns false'. Refute it at one input. -/
def ivsetGapsWrong : ChangeSpec := { name := "ivsetGaps", fn := fun _ => fun
  | [d1, d2, d3] => { results := [.lit (.bool false)], args := [d1, d2, d3] }
  | _ => none }
def IvsetGapsWrongFalsely : Prop := ivsetGapsRow.holds Try.pinned (OpenSpec.ofChange ivsetGapsWrong)

/-- 'braidlaw01.IvsetAdds': WHATEVER THE INPUT: true; the input reads as it did. -/
def ivsetAddsSpec : ChangeSpec := { name := "ivsetAdds", fn := fun _ => fun
  | [d1, d2, d3] => { results := [.lit (.bool true)], args := [d1, d2, d3] }
  | _ => none }
def ivsetAddsRow : OpenClaim := { program := "ytjbjaklbckhodaa", sum := "67ee87f147bc371a32f00f8cdea0cb22b1b0e996c43b8d858c03892216735102", func := "braid/braidlaw01.IvsetAdds", spec := "ivsetAdds", inPlace := ["slices.overlaps[braid/api.Range]"], unfollowed := true, recurses := true, apart := false }
def IvsetAddsSaid : Prop := ivsetAddsRow.holds Try.pinned (OpenSpec.ofChange ivsetAddsSpec)

/-- ITS FALSE NEIGHBOUR: 'it returns false'. Refute it at one input. -/
def ivsetAddsWrong : ChangeSpec := { name := "ivsetAdds", fn := fun _ => fun
  | [d1, d2, d3] => { results := [.lit (.bool false)], args := [d1, d2, d3] }
  | _ => none }
def IvsetAddsWrongFalsely : Prop := ivsetAddsRow.holds Try.pinned (OpenSpec.ofChange ivsetAddsWrong)

/-- 'braidlaw01.IvsetMeets': WHATEVER THE INPUT: true; the input reads as it did. -/
def ivsetMeetsSpec : ChangeSpec := { name := "ivsetMeets", fn := fun _ => fun
  | [d1, d2] => { results := [.lit (.bool true)], args := [d1, d2] }
  | _ => none }
def ivsetMeetsRow : OpenClaim := { program := "ytjbjaklbckhodaa", sum := "67ee87f147bc371a32f00f8cdea0cb22b1b0e996c43b8d858c03892216735102", func := "braid/braidlaw01.IvsetMeets", spec := "ivsetMeets", inPlace := ["slices.overlaps[braid/api.Range]"], unfollowed := true, recurses := true, apart := false }
def IvsetMeetsSaid : Prop := ivsetMeetsRow.holds Try.pinned (OpenSpec.ofChange ivsetMeetsSpec)

/-- ITS FALSE NEIGHBOUR: 'it returns false'. Refute it at one input. -/
def ivsetMeetsWrong : ChangeSpec := { name := "ivsetMeets", fn := fun _ => fun
  | [d1, d2] => { results := [.lit (.bool false)], args := [d1, d2] }
  | _ => none }
def IvsetMeetsWrongFalsely : Prop := ivsetMeetsRow.holds Try.pinned (OpenSpec.ofChange ivsetMeetsWrong)

/- THE SECOND FORM. 'bulk': how many values and letters a reading holds, each counted each time it is reached (what is shared counts as often as it is met; a slice's spare places count too). A statement '..UptoSaid' is the law's where the arguments, and the package variables that the reading takes, are together of bulk at most 1048576: NARROWER than '..Said'. Prove '..Said' where nothing that the law and all that it calls make is longer than what came in: it says more and counts as full. Else prove '..UptoSaid'. A law counts once. -/
mutual
def uptoBulk {H : Type} : DataW H → Nat
  | .lit (.string bytes) => bytes.length + 1
  | .lit _ => 1
  | .nil => 1
  | .ptr d => uptoBulk d + 1
  | .slice elems spare => uptoBulkAll elems + uptoBulkAll spare + 1
  | .agg parts => uptoBulkAll parts + 1
  | .iface _ d => uptoBulk d + 1
  | .map entries => uptoBulkEntries entries + 1
  | .held _ => 1
def uptoBulkAll {H : Type} : List (DataW H) → Nat
  | [] => 0
  | d :: r => uptoBulk d + uptoBulkAll r
def uptoBulkEntries {H : Type} : List (Lit × DataW H) → Nat
  | [] => 0
  | x :: r => uptoBulkEntry x + uptoBulkEntries r
def uptoBulkEntry {H : Type} : Lit × DataW H → Nat
  | (.string bytes, d) => bytes.length + uptoBulk d + 1
  | (_, d) => uptoBulk d + 1
 end
def uptoSmall : (H : Type) → List (DataW H) → Bool := fun _ ds => decide (uptoBulkAll ds ≤ 1048576)
def OpenSpec.upto (s : _root_.Go.ChangeSpec) : _root_.Go.OpenSpec := { _root_.Go.OpenSpec.ofChange s with cond := some uptoSmall }

/-- 'braidlaw01.IvsetOrder', WHERE WHAT IT READS IS OF BULK AT MOST 1048576: true; the input reads as it did. -/
def ivsetOrderUptoRow : OpenClaim := { program := "ytjbjaklbckhodaa", sum := "67ee87f147bc371a32f00f8cdea0cb22b1b0e996c43b8d858c03892216735102", func := "braid/braidlaw01.IvsetOrder", spec := "ivsetOrder", inPlace := ["slices.overlaps[braid/api.Range]"], unfollowed := true, recurses := true, apart := false, narrowed := true }
def IvsetOrderUptoSaid : Prop := ivsetOrderUptoRow.holds Try.pinned (OpenSpec.upto ivsetOrderSpec)

/-- 'braidlaw01.IvsetStops', WHERE WHAT IT READS IS OF BULK AT MOST 1048576: true; the input reads as it did. -/
def ivsetStopsUptoRow : OpenClaim := { program := "ytjbjaklbckhodaa", sum := "67ee87f147bc371a32f00f8cdea0cb22b1b0e996c43b8d858c03892216735102", func := "braid/braidlaw01.IvsetStops", spec := "ivsetStops", inPlace := ["slices.overlaps[braid/api.Range]"], unfollowed := true, recurses := true, apart := false, narrowed := true }
def IvsetStopsUptoSaid : Prop := ivsetStopsUptoRow.holds Try.pinned (OpenSpec.upto ivsetStopsSpec)

/-- 'braidlaw01.IvsetForm', WHERE WHAT IT READS IS OF BULK AT MOST 1048576: true; the input reads as it did. -/
def ivsetFormUptoRow : OpenClaim := { program := "ytjbjaklbckhodaa", sum := "67ee87f147bc371a32f00f8cdea0cb22b1b0e996c43b8d858c03892216735102", func := "braid/braidlaw01.IvsetForm", spec := "ivsetForm", inPlace := ["slices.overlaps[braid/api.Range]"], unfollowed := true, recurses := true, apart := false, narrowed := true }
def IvsetFormUptoSaid : Prop := ivsetFormUptoRow.holds Try.pinned (OpenSpec.upto ivsetFormSpec)

/-- 'braidlaw01.IvsetGaps', WHERE WHAT IT READS IS OF BULK AT MOST 1048576: true; the input reads as it did. -/
def ivsetGapsUptoRow : OpenClaim := { program := "ytjbjaklbckhodaa", sum := "67ee87f147bc371a32f00f8cdea0cb22b1b0e996c43b8d858c03892216735102", func := "braid/braidlaw01.IvsetGaps", spec := "ivsetGaps", inPlace := ["slices.overlaps[braid/api.Range]"], unfollowed := true, recurses := true, apart := false, narrowed := true }
def IvsetGapsUptoSaid : Prop := ivsetGapsUptoRow.holds Try.pinned (OpenSpec.upto ivsetGapsSpec)

/-- 'braidlaw01.IvsetAdds', WHERE WHAT IT READS IS OF BULK AT MOST 1048576: true; the input reads as it did. -/
def ivsetAddsUptoRow : OpenClaim := { program := "ytjbjaklbckhodaa", sum := "67ee87f147bc371a32f00f8cdea0cb22b1b0e996c43b8d858c03892216735102", func := "braid/braidlaw01.IvsetAdds", spec := "ivsetAdds", inPlace := ["slices.overlaps[braid/api.Range]"], unfollowed := true, recurses := true, apart := false, narrowed := true }
def IvsetAddsUptoSaid : Prop := ivsetAddsUptoRow.holds Try.pinned (OpenSpec.upto ivsetAddsSpec)

/-- 'braidlaw01.IvsetMeets', WHERE WHAT IT READS IS OF BULK AT MOST 1048576: true; the input reads as it did. -/
def ivsetMeetsUptoRow : OpenClaim := { program := "ytjbjaklbckhodaa", sum := "67ee87f147bc371a32f00f8cdea0cb22b1b0e996c43b8d858c03892216735102", func := "braid/braidlaw01.IvsetMeets", spec := "ivsetMeets", inPlace := ["slices.overlaps[braid/api.Range]"], unfollowed := true, recurses := true, apart := false, narrowed := true }
def IvsetMeetsUptoSaid : Prop := ivsetMeetsUptoRow.holds Try.pinned (OpenSpec.upto ivsetMeetsSpec)

end Rows
end Go.Proofs.Ytjbjaklbckhodaa
