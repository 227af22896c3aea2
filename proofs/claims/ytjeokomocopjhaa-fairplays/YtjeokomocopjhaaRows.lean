/-
  No cell of these rows narrows 'for every input' (looked for: loops, veiled, ifaces, maps, wideKeys, modest, calm, conditions, laid).
  DERIVED. THE GIVEN ROWS OF THIS SEAT. 4 by the template 'for every input the law returns true; each argument reads behind the call as it read before'; 0 by the template 'total and deterministic' (their statements: YtjeokomocopjhaaTotals.lean).
  GIVEN WITH THE SEED: the statements are not yours to turn. If you find one false, say at which input.
  Laid BY PROGRAM, IN A SANDBOX (cutbox-rows.mjs): the forced cells as the released guide's own fill.sh prints them over the translation a35bcc8d1d5d27aa… (all of the seat's roots in one cut). By AI agents, Wed Nov 11 2026. No macro, syntax, notation, axiom, sorry.
-/
import Derived.Test.YtjeokomocopjhaaChecked
import GoSem.Claim
import GoSem.ClaimJoined
import GoSem.ClaimMapViews
import Derived.JoinedTies
import Derived.KernelRfl
namespace Go.Proofs.Ytjeokomocopjhaa
/- THE CELL 'sum', in the pinned program and in every row, IS THE sha256 OF THE DUMP (.gsa) THAT YtjeokomocopjhaaProg.lean LOADS. Nothing in Lean hashes anything: it is a label: what it is worth is what the hold of that sum in a sandbox is worth. -/
noncomputable def Try.pinned : Pinned := { name := "ytjeokomocopjhaa", sum := "a35bcc8d1d5d27aa34583c6692a8e5199176861a7e6b052db44b33b1e91a88f8", checked := Try.checked }
namespace Rows
def none {H : Type} : Left H := { results := [], args := [] }

/-- 'braidlaw19.FairShares': WHATEVER THE INPUT: true; the input reads as it did. -/
def fairSharesSpec : ChangeSpec := { name := "fairShares", fn := fun _ => fun
  | [d1, d2, d3, d4] => { results := [.lit (.bool true)], args := [d1, d2, d3, d4] }
  | _ => none }
def fairSharesRow : OpenClaim := { program := "ytjeokomocopjhaa", sum := "a35bcc8d1d5d27aa34583c6692a8e5199176861a7e6b052db44b33b1e91a88f8", func := "braid/braidlaw19.FairShares", spec := "fairShares", apart := false }
def FairSharesSaid : Prop := fairSharesRow.holds Try.pinned (OpenSpec.ofChange fairSharesSpec)

/-- ITS FALSE NEIGHBOUR: 'it returns false'. Refute it at one input. -/
def fairSharesWrong : ChangeSpec := { name := "fairShares", fn := fun _ => fun
  | [d1, d2, d3, d4] => { results := [.lit (.bool false)], args := [d1, d2, d3, d4] }
  | _ => none }
def FairSharesWrongFalsely : Prop := fairSharesRow.holds Try.pinned (OpenSpec.ofChange fairSharesWrong)

/-- 'braidlaw19.FairStarves': WHATEVER THE INPUT: true; the input reads as it did. -/
def fairStarvesSpec : ChangeSpec := { name := "fairStarves", fn := fun _ => fun
  | [d1, d2, d3, d4] => { results := [.lit (.bool true)], args := [d1, d2, d3, d4] }
  | _ => none }
def fairStarvesRow : OpenClaim := { program := "ytjeokomocopjhaa", sum := "a35bcc8d1d5d27aa34583c6692a8e5199176861a7e6b052db44b33b1e91a88f8", func := "braid/braidlaw19.FairStarves", spec := "fairStarves", apart := false }
def FairStarvesSaid : Prop := fairStarvesRow.holds Try.pinned (OpenSpec.ofChange fairStarvesSpec)

/-- ITS FALSE NEIGHBOUR: 'it returns false'. Refute it at one input. -/
def fairStarvesWrong : ChangeSpec := { name := "fairStarves", fn := fun _ => fun
  | [d1, d2, d3, d4] => { results := [.lit (.bool false)], args := [d1, d2, d3, d4] }
  | _ => none }
def FairStarvesWrongFalsely : Prop := fairStarvesRow.holds Try.pinned (OpenSpec.ofChange fairStarvesWrong)

/-- 'braidlaw19.FairWorks': WHATEVER THE INPUT: true; the input reads as it did. -/
def fairWorksSpec : ChangeSpec := { name := "fairWorks", fn := fun _ => fun
  | [d1, d2] => { results := [.lit (.bool true)], args := [d1, d2] }
  | _ => none }
def fairWorksRow : OpenClaim := { program := "ytjeokomocopjhaa", sum := "a35bcc8d1d5d27aa34583c6692a8e5199176861a7e6b052db44b33b1e91a88f8", func := "braid/braidlaw19.FairWorks", spec := "fairWorks", unfollowed := true, recurses := true, apart := false }
def FairWorksSaid : Prop := fairWorksRow.holds Try.pinned (OpenSpec.ofChange fairWorksSpec)

/-- ITS FALSE NEIGHBOUR: 'it returns false'. Refute it at one input. -/
def fairWorksWrong : ChangeSpec := { name := "fairWorks", fn := fun _ => fun
  | [d1, d2] => { results := [.lit (.bool false)], args := [d1, d2] }
  | _ => none }
def FairWorksWrongFalsely : Prop := fairWorksRow.holds Try.pinned (OpenSpec.ofChange fairWorksWrong)

/-- 'braidlaw19.FairPlays': WHATEVER THE INPUT: true; the input reads as it did. -/
def fairPlaysSpec : ChangeSpec := { name := "fairPlays", fn := fun _ => fun
  | [d1, d2, d3] => { results := [.lit (.bool true)], args := [d1, d2, d3] }
  | _ => none }
def fairPlaysRow : OpenClaim := { program := "ytjeokomocopjhaa", sum := "a35bcc8d1d5d27aa34583c6692a8e5199176861a7e6b052db44b33b1e91a88f8", func := "braid/braidlaw19.FairPlays", spec := "fairPlays", unfollowed := true, recurses := true, apart := false }
def FairPlaysSaid : Prop := fairPlaysRow.holds Try.pinned (OpenSpec.ofChange fairPlaysSpec)

/-- ITS FALSE NEIGHBOUR: 'it returns false'. Refute it at one input. -/
def fairPlaysWrong : ChangeSpec := { name := "fairPlays", fn := fun _ => fun
  | [d1, d2, d3] => { results := [.lit (.bool false)], args := [d1, d2, d3] }
  | _ => none }
def FairPlaysWrongFalsely : Prop := fairPlaysRow.holds Try.pinned (OpenSpec.ofChange fairPlaysWrong)

/- THE SECOND FORM. 'bulk': how many values and letters a reading holds, each counted each time it is reached (what is shared counts as often as it is met; a slice's spare places count too). A statement '..UptoSaid' is the law's where the arguments, and the package variables that the reading takes, are together of bulk at most 1048576: NARROWER than '..Said'. Prove '..Said' where nothing that the law and all that it calls make is longer than what came in: it says more and counts as full. Else prove '..UptoSaid'. A law counts once. -/
mutual
def uptoBulk {H : Type} : DataW H → Nat
  | .lit (.string bytes) => bytes.length + 1
  | .lit _ => 1
  | .nil => 1
  | .ptr d => uptoBulk d + 1
  | .slice elems spare => uptoBulkAll elems + uptoBulkAll spare + 1
  | .agg parts => uptoBulkAll parts + 1
  | .iface _ d => uptoBulk d + 1
  | .map entries => uptoBulkEntries entries + 1
  | .held _ => 1
def uptoBulkAll {H : Type} : List (DataW H) → Nat
  | [] => 0
  | d :: r => uptoBulk d + uptoBulkAll r
def uptoBulkEntries {H : Type} : List (Lit × DataW H) → Nat
  | [] => 0
  | x :: r => uptoBulkEntry x + uptoBulkEntries r
def uptoBulkEntry {H : Type} : Lit × DataW H → Nat
  | (.string bytes, d) => bytes.length + uptoBulk d + 1
  | (_, d) => uptoBulk d + 1
 end
def uptoSmall : (H : Type) → List (DataW H) → Bool := fun _ ds => decide (uptoBulkAll ds ≤ 1048576)
def OpenSpec.upto (s : _root_.Go.ChangeSpec) : _root_.Go.OpenSpec := { _root_.Go.OpenSpec.ofChange s with cond := some uptoSmall }

/-- 'braidlaw19.FairShares', WHERE WHAT IT READS IS OF BULK AT MOST 1048576: true; the input reads as it did. -/
def fairSharesUptoRow : OpenClaim := { program := "ytjeokomocopjhaa", sum := "a35bcc8d1d5d27aa34583c6692a8e5199176861a7e6b052db44b33b1e91a88f8", func := "braid/braidlaw19.FairShares", spec := "fairShares", apart := false, narrowed := true }
def FairSharesUptoSaid : Prop := fairSharesUptoRow.holds Try.pinned (OpenSpec.upto fairSharesSpec)

/-- 'braidlaw19.FairStarves', WHERE WHAT IT READS IS OF BULK AT MOST 1048576: true; the input reads as it did. -/
def fairStarvesUptoRow : OpenClaim := { program := "ytjeokomocopjhaa", sum := "a35bcc8d1d5d27aa34583c6692a8e5199176861a7e6b052db44b33b1e91a88f8", func := "braid/braidlaw19.FairStarves", spec := "fairStarves", apart := false, narrowed := true }
def FairStarvesUptoSaid : Prop := fairStarvesUptoRow.holds Try.pinned (OpenSpec.upto fairStarvesSpec)

/-- 'braidlaw19.FairWorks', WHERE WHAT IT READS IS OF BULK AT MOST 1048576: true; the input reads as it did. -/
def fairWorksUptoRow : OpenClaim := { program := "ytjeokomocopjhaa", sum := "a35bcc8d1d5d27aa34583c6692a8e5199176861a7e6b052db44b33b1e91a88f8", func := "braid/braidlaw19.FairWorks", spec := "fairWorks", unfollowed := true, recurses := true, apart := false, narrowed := true }
def FairWorksUptoSaid : Prop := fairWorksUptoRow.holds Try.pinned (OpenSpec.upto fairWorksSpec)

/-- 'braidlaw19.FairPlays', WHERE WHAT IT READS IS OF BULK AT MOST 1048576: true; the input reads as it did. -/
def fairPlaysUptoRow : OpenClaim := { program := "ytjeokomocopjhaa", sum := "a35bcc8d1d5d27aa34583c6692a8e5199176861a7e6b052db44b33b1e91a88f8", func := "braid/braidlaw19.FairPlays", spec := "fairPlays", unfollowed := true, recurses := true, apart := false, narrowed := true }
def FairPlaysUptoSaid : Prop := fairPlaysUptoRow.holds Try.pinned (OpenSpec.upto fairPlaysSpec)

end Rows
end Go.Proofs.Ytjeokomocopjhaa
