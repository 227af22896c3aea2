/-
  No cell of these rows narrows 'for every input' (looked for: loops, veiled, ifaces, maps, wideKeys, modest, calm, conditions, laid).
  DERIVED. THE GIVEN ROWS OF THIS SEAT. 6 by the template 'for every input the law returns true; each argument reads behind the call as it read before'; 0 by the template 'total and deterministic' (their statements: YtjnmfedefmemnaaTotals.lean).
  GIVEN WITH THE SEED: the statements are not yours to turn. If you find one false, say at which input.
  Laid BY PROGRAM, IN A SANDBOX (cutbox-rows.mjs): the forced cells as the released guide's own fill.sh prints them over the translation e24d808ef88c9cb1… (all of the seat's roots in one cut). By AI agents, Wed Nov 11 2026. No macro, syntax, notation, axiom, sorry.
-/
import Derived.Test.YtjnmfedefmemnaaChecked
import GoSem.Claim
import GoSem.ClaimJoined
import GoSem.ClaimMapViews
import Derived.JoinedTies
import Derived.KernelRfl
namespace Go.Proofs.Ytjnmfedefmemnaa
/- THE CELL 'sum', in the pinned program and in every row, IS THE sha256 OF THE DUMP (.gsa) THAT YtjnmfedefmemnaaProg.lean LOADS. Nothing in Lean hashes anything: it is a label: what it is worth is what the hold of that sum in a sandbox is worth. -/
noncomputable def Try.pinned : Pinned := { name := "ytjnmfedefmemnaa", sum := "e24d808ef88c9cb1f905c07aed0523f30def0bf44ecec62f475bf91b5d7a28e6", checked := Try.checked }
namespace Rows
def none {H : Type} : Left H := { results := [], args := [] }

/-- 'braidlaw04.SimnetFresh': WHATEVER THE INPUT: true; the input reads as it did. -/
def simnetFreshSpec : ChangeSpec := { name := "simnetFresh", fn := fun _ => fun
  | [d1, d2] => { results := [.lit (.bool true)], args := [d1, d2] }
  | _ => none }
def simnetFreshRow : OpenClaim := { program := "ytjnmfedefmemnaa", sum := "e24d808ef88c9cb1f905c07aed0523f30def0bf44ecec62f475bf91b5d7a28e6", func := "braid/braidlaw04.SimnetFresh", spec := "simnetFresh", inPlace := ["maps.clone"], unfollowed := true, recurses := true, apart := false }
def SimnetFreshSaid : Prop := simnetFreshRow.holds Try.pinned (OpenSpec.ofChange simnetFreshSpec)

/-- ITS FALSE NEIGHBOUR: 'it returns false'. Refute it at one input. -/
def simnetFreshWrong : ChangeSpec := { name := "simnetFresh", fn := fun _ => fun
  | [d1, d2] => { results := [.lit (.bool false)], args := [d1, d2] }
  | _ => none }
def SimnetFreshWrongFalsely : Prop := simnetFreshRow.holds Try.pinned (OpenSpec.ofChange simnetFreshWrong)

/-- 'braidlaw04.SimnetRow': WHATEVER THE INPUT: true; the input reads as it did. -/
def simnetRowSpec : ChangeSpec := { name := "simnetRow", fn := fun _ => fun
  | [d1, d2, d3] => { results := [.lit (.bool true)], args := [d1, d2, d3] }
  | _ => none }
def simnetRowRow : OpenClaim := { program := "ytjnmfedefmemnaa", sum := "e24d808ef88c9cb1f905c07aed0523f30def0bf44ecec62f475bf91b5d7a28e6", func := "braid/braidlaw04.SimnetRow", spec := "simnetRow", unfollowed := true, recurses := true, apart := false }
def SimnetRowSaid : Prop := simnetRowRow.holds Try.pinned (OpenSpec.ofChange simnetRowSpec)

/-- ITS FALSE NEIGHBOUR: 'it returns false'. Refute it at one input. -/
def simnetRowWrong : ChangeSpec := { name := "simnetRow", fn := fun _ => fun
  | [d1, d2, d3] => { results := [.lit (.bool false)], args := [d1, d2, d3] }
  | _ => none }
def SimnetRowWrongFalsely : Prop := simnetRowRow.holds Try.pinned (OpenSpec.ofChange simnetRowWrong)

/-- 'braidlaw04.SimnetHeals': WHATEVER THE INPUT: true; the input reads as it did. -/
def simnetHealsSpec : ChangeSpec := { name := "simnetHeals", fn := fun _ => fun
  | [d1, d2, d3, d4] => { results := [.lit (.bool true)], args := [d1, d2, d3, d4] }
  | _ => none }
def simnetHealsRow : OpenClaim := { program := "ytjnmfedefmemnaa", sum := "e24d808ef88c9cb1f905c07aed0523f30def0bf44ecec62f475bf91b5d7a28e6", func := "braid/braidlaw04.SimnetHeals", spec := "simnetHeals", unfollowed := true, recurses := true, apart := false }
def SimnetHealsSaid : Prop := simnetHealsRow.holds Try.pinned (OpenSpec.ofChange simnetHealsSpec)

/-- ITS FALSE NEIGHBOUR: 'it returns false'. Refute it at one input. -/
def simnetHealsWrong : ChangeSpec := { name := "simnetHeals", fn := fun _ => fun
  | [d1, d2, d3, d4] => { results := [.lit (.bool false)], args := [d1, d2, d3, d4] }
  | _ => none }
def SimnetHealsWrongFalsely : Prop := simnetHealsRow.holds Try.pinned (OpenSpec.ofChange simnetHealsWrong)

/-- 'braidlaw04.SimnetDark': WHATEVER THE INPUT: true; the input reads as it did. -/
def simnetDarkSpec : ChangeSpec := { name := "simnetDark", fn := fun _ => fun
  | [d1, d2, d3, d4] => { results := [.lit (.bool true)], args := [d1, d2, d3, d4] }
  | _ => none }
def simnetDarkRow : OpenClaim := { program := "ytjnmfedefmemnaa", sum := "e24d808ef88c9cb1f905c07aed0523f30def0bf44ecec62f475bf91b5d7a28e6", func := "braid/braidlaw04.SimnetDark", spec := "simnetDark", inPlace := ["maps.clone"], unfollowed := true, recurses := true, apart := false }
def SimnetDarkSaid : Prop := simnetDarkRow.holds Try.pinned (OpenSpec.ofChange simnetDarkSpec)

/-- ITS FALSE NEIGHBOUR: 'it returns false'. Refute it at one input. -/
def simnetDarkWrong : ChangeSpec := { name := "simnetDark", fn := fun _ => fun
  | [d1, d2, d3, d4] => { results := [.lit (.bool false)], args := [d1, d2, d3, d4] }
  | _ => none }
def SimnetDarkWrongFalsely : Prop := simnetDarkRow.holds Try.pinned (OpenSpec.ofChange simnetDarkWrong)

/-- 'braidlaw04.SimnetNobody': WHATEVER THE INPUT: true; the input reads as it did. -/
def simnetNobodySpec : ChangeSpec := { name := "simnetNobody", fn := fun _ => fun
  | [d1, d2, d3, d4, d5] => { results := [.lit (.bool true)], args := [d1, d2, d3, d4, d5] }
  | _ => none }
def simnetNobodyRow : OpenClaim := { program := "ytjnmfedefmemnaa", sum := "e24d808ef88c9cb1f905c07aed0523f30def0bf44ecec62f475bf91b5d7a28e6", func := "braid/braidlaw04.SimnetNobody", spec := "simnetNobody", inPlace := ["maps.clone"], unfollowed := true, recurses := true, apart := false }
def SimnetNobodySaid : Prop := simnetNobodyRow.holds Try.pinned (OpenSpec.ofChange simnetNobodySpec)

/-- ITS FALSE NEIGHBOUR: 'it returns false'. Refute it at one input. -/
def simnetNobodyWrong : ChangeSpec := { name := "simnetNobody", fn := fun _ => fun
  | [d1, d2, d3, d4, d5] => { results := [.lit (.bool false)], args := [d1, d2, d3, d4, d5] }
  | _ => none }
def SimnetNobodyWrongFalsely : Prop := simnetNobodyRow.holds Try.pinned (OpenSpec.ofChange simnetNobodyWrong)

/-- 'braidlaw04.SimnetApart': WHATEVER THE INPUT: true; the input reads as it did. -/
def simnetApartSpec : ChangeSpec := { name := "simnetApart", fn := fun _ => fun
  | [d1, d2, d3, d4] => { results := [.lit (.bool true)], args := [d1, d2, d3, d4] }
  | _ => none }
def simnetApartRow : OpenClaim := { program := "ytjnmfedefmemnaa", sum := "e24d808ef88c9cb1f905c07aed0523f30def0bf44ecec62f475bf91b5d7a28e6", func := "braid/braidlaw04.SimnetApart", spec := "simnetApart", inPlace := ["maps.clone"], unfollowed := true, recurses := true, apart := false }
def SimnetApartSaid : Prop := simnetApartRow.holds Try.pinned (OpenSpec.ofChange simnetApartSpec)

/-- ITS FALSE NEIGHBOUR: 'it returns false'. Refute it at one input. -/
def simnetApartWrong : ChangeSpec := { name := "simnetApart", fn := fun _ => fun
  | [d1, d2, d3, d4] => { results := [.lit (.bool false)], args := [d1, d2, d3, d4] }
  | _ => none }
def SimnetApartWrongFalsely : Prop := simnetApartRow.holds Try.pinned (OpenSpec.ofChange simnetApartWrong)

/- THE SECOND FORM. 'bulk': how many values and letters a reading holds, each counted each time it is reached (what is shared counts as often as it is met; a slice's spare places count too). A statement '..UptoSaid' is the law's where the arguments, and the package variables that the reading takes, are together of bulk at most 1048576: NARROWER than '..Said'. Prove '..Said' where nothing that the law and all that it calls make is longer than what came in: it says more and counts as full. Else prove '..UptoSaid'. A law counts once. -/
mutual
def uptoBulk {H : Type} : DataW H → Nat
  | .lit (.string bytes) => bytes.length + 1
  | .lit _ => 1
  | .nil => 1
  | .ptr d => uptoBulk d + 1
  | .slice elems spare => uptoBulkAll elems + uptoBulkAll spare + 1
  | .agg parts => uptoBulkAll parts + 1
  | .iface _ d => uptoBulk d + 1
  | .map entries => uptoBulkEntries entries + 1
  | .held _ => 1
def uptoBulkAll {H : Type} : List (DataW H) → Nat
  | [] => 0
  | d :: r => uptoBulk d + uptoBulkAll r
def uptoBulkEntries {H : Type} : List (Lit × DataW H) → Nat
  | [] => 0
  | x :: r => uptoBulkEntry x + uptoBulkEntries r
def uptoBulkEntry {H : Type} : Lit × DataW H → Nat
  | (.string bytes, d) => bytes.length + uptoBulk d + 1
  | (_, d) => uptoBulk d + 1
 end
def uptoSmall : (H : Type) → List (DataW H) → Bool := fun _ ds => decide (uptoBulkAll ds ≤ 1048576)
def OpenSpec.upto (s : _root_.Go.ChangeSpec) : _root_.Go.OpenSpec := { _root_.Go.OpenSpec.ofChange s with cond := some uptoSmall }

/-- 'braidlaw04.SimnetFresh', WHERE WHAT IT READS IS OF BULK AT MOST 1048576: true; the input reads as it did. -/
def simnetFreshUptoRow : OpenClaim := { program := "ytjnmfedefmemnaa", sum := "e24d808ef88c9cb1f905c07aed0523f30def0bf44ecec62f475bf91b5d7a28e6", func := "braid/braidlaw04.SimnetFresh", spec := "simnetFresh", inPlace := ["maps.clone"], unfollowed := true, recurses := true, apart := false, narrowed := true }
def SimnetFreshUptoSaid : Prop := simnetFreshUptoRow.holds Try.pinned (OpenSpec.upto simnetFreshSpec)

/-- 'braidlaw04.SimnetRow', WHERE WHAT IT READS IS OF BULK AT MOST 1048576: true; the input reads as it did. -/
def simnetRowUptoRow : OpenClaim := { program := "ytjnmfedefmemnaa", sum := "e24d808ef88c9cb1f905c07aed0523f30def0bf44ecec62f475bf91b5d7a28e6", func := "braid/braidlaw04.SimnetRow", spec := "simnetRow", unfollowed := true, recurses := true, apart := false, narrowed := true }
def SimnetRowUptoSaid : Prop := simnetRowUptoRow.holds Try.pinned (OpenSpec.upto simnetRowSpec)

/-- 'braidlaw04.SimnetHeals', WHERE WHAT IT READS IS OF BULK AT MOST 1048576: true; the input reads as it did. -/
def simnetHealsUptoRow : OpenClaim := { program := "ytjnmfedefmemnaa", sum := "e24d808ef88c9cb1f905c07aed0523f30def0bf44ecec62f475bf91b5d7a28e6", func := "braid/braidlaw04.SimnetHeals", spec := "simnetHeals", unfollowed := true, recurses := true, apart := false, narrowed := true }
def SimnetHealsUptoSaid : Prop := simnetHealsUptoRow.holds Try.pinned (OpenSpec.upto simnetHealsSpec)

/-- 'braidlaw04.SimnetDark', WHERE WHAT IT READS IS OF BULK AT MOST 1048576: true; the input reads as it did. -/
def simnetDarkUptoRow : OpenClaim := { program := "ytjnmfedefmemnaa", sum := "e24d808ef88c9cb1f905c07aed0523f30def0bf44ecec62f475bf91b5d7a28e6", func := "braid/braidlaw04.SimnetDark", spec := "simnetDark", inPlace := ["maps.clone"], unfollowed := true, recurses := true, apart := false, narrowed := true }
def SimnetDarkUptoSaid : Prop := simnetDarkUptoRow.holds Try.pinned (OpenSpec.upto simnetDarkSpec)

/-- 'braidlaw04.SimnetNobody', WHERE WHAT IT READS IS OF BULK AT MOST 1048576: true; the input reads as it did. -/
def simnetNobodyUptoRow : OpenClaim := { program := "ytjnmfedefmemnaa", sum := "e24d808ef88c9cb1f905c07aed0523f30def0bf44ecec62f475bf91b5d7a28e6", func := "braid/braidlaw04.SimnetNobody", spec := "simnetNobody", inPlace := ["maps.clone"], unfollowed := true, recurses := true, apart := false, narrowed := true }
def SimnetNobodyUptoSaid : Prop := simnetNobodyUptoRow.holds Try.pinned (OpenSpec.upto simnetNobodySpec)

/-- 'braidlaw04.SimnetApart', WHERE WHAT IT READS IS OF BULK AT MOST 1048576: true; the input reads as it did. -/
def simnetApartUptoRow : OpenClaim := { program := "ytjnmfedefmemnaa", sum := "e24d808ef88c9cb1f905c07aed0523f30def0bf44ecec62f475bf91b5d7a28e6", func := "braid/braidlaw04.SimnetApart", spec := "simnetApart", inPlace := ["maps.clone"], unfollowed := true, recurses := true, apart := false, narrowed := true }
def SimnetApartUptoSaid : Prop := simnetApartUptoRow.holds Try.pinned (OpenSpec.upto simnetApartSpec)

end Rows
end Go.Proofs.Ytjnmfedefmemnaa
