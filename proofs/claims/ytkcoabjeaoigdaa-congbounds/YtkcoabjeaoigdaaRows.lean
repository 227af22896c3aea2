/-
  No cell of these rows narrows 'for every input' (looked for: loops, veiled, ifaces, maps, wideKeys, modest, calm, conditions, laid).
  DERIVED. THE GIVEN ROWS OF THIS SEAT. 6 by the template 'for every input the law returns true; each argument reads behind the call as it read before'; 0 by the template 'total and deterministic' (their statements: YtkcoabjeaoigdaaTotals.lean).
  GIVEN WITH THE SEED: the statements are not yours to turn. If you find one false, say at which input.
  Laid BY PROGRAM, IN A SANDBOX (cutbox-rows.mjs): the forced cells as the released guide's own fill.sh prints them over the translation 57082ad532969c4f… (all of the seat's roots in one cut). By AI agents, Wed Nov 11 2026. No macro, syntax, notation, axiom, sorry.
-/
import Derived.Test.YtkcoabjeaoigdaaChecked
import GoSem.Claim
import GoSem.ClaimJoined
import GoSem.ClaimMapViews
import Derived.JoinedTies
import Derived.KernelRfl
namespace Go.Proofs.Ytkcoabjeaoigdaa
/- THE CELL 'sum', in the pinned program and in every row, IS THE sha256 OF THE DUMP (.gsa) THAT YtkcoabjeaoigdaaProg.lean LOADS. Nothing in Lean hashes anything: it is a label: what it is worth is what the hold of that sum in a sandbox is worth. -/
noncomputable def Try.pinned : Pinned := { name := "ytkcoabjeaoigdaa", sum := "57082ad532969c4fbf004c49a35674ba778c31afdc461a994a0ef161f2af4c9f", checked := Try.checked }
namespace Rows
def none {H : Type} : Left H := { results := [], args := [] }

/-- 'braidlaw06.CongTogether': WHATEVER THE INPUT: true; the input reads as it did. -/
def congTogetherSpec : ChangeSpec := { name := "congTogether", fn := fun _ => fun
  | [d1, d2, d3] => { results := [.lit (.bool true)], args := [d1, d2, d3] }
  | _ => none }
def congTogetherRow : OpenClaim := { program := "ytkcoabjeaoigdaa", sum := "57082ad532969c4fbf004c49a35674ba778c31afdc461a994a0ef161f2af4c9f", func := "braid/braidlaw06.CongTogether", spec := "congTogether", unfollowed := true, recurses := true, apart := false }
def CongTogetherSaid : Prop := congTogetherRow.holds Try.pinned (OpenSpec.ofChange congTogetherSpec)

/-- ITS FALSE NEIGHBOUR: 'it returns false'. Refute it at one input. -/
def congTogetherWrong : ChangeSpec := { name := "congTogether", fn := fun _ => fun
  | [d1, d2, d3] => { results := [.lit (.bool false)], args := [d1, d2, d3] }
  | _ => none }
def CongTogetherWrongFalsely : Prop := congTogetherRow.holds Try.pinned (OpenSpec.ofChange congTogetherWrong)

/-- 'braidlaw06.CongBounds': WHATEVER THE INPUT: true; the input reads as it did. -/
def congBoundsSpec : ChangeSpec := { name := "congBounds", fn := fun _ => fun
  | [d1, d2] => { results := [.lit (.bool true)], args := [d1, d2] }
  | _ => none }
def congBoundsRow : OpenClaim := { program := "ytkcoabjeaoigdaa", sum := "57082ad532969c4fbf004c49a35674ba778c31afdc461a994a0ef161f2af4c9f", func := "braid/braidlaw06.CongBounds", spec := "congBounds", unfollowed := true, recurses := true, apart := false }
def CongBoundsSaid : Prop := congBoundsRow.holds Try.pinned (OpenSpec.ofChange congBoundsSpec)

/-- ITS FALSE NEIGHBOUR: 'it returns false'. Refute it at one input. -/
def congBoundsWrong : ChangeSpec := { name := "congBounds", fn := fun _ => fun
  | [d1, d2] => { results := [.lit (.bool false)], args := [d1, d2] }
  | _ => none }
def CongBoundsWrongFalsely : Prop := congBoundsRow.holds Try.pinned (OpenSpec.ofChange congBoundsWrong)

/-- 'braidlaw06.CongFair': WHATEVER THE INPUT: true; the input reads as it did. -/
def congFairSpec : ChangeSpec := { name := "congFair", fn := fun _ => fun
  | [d1, d2, d3] => { results := [.lit (.bool true)], args := [d1, d2, d3] }
  | _ => none }
def congFairRow : OpenClaim := { program := "ytkcoabjeaoigdaa", sum := "57082ad532969c4fbf004c49a35674ba778c31afdc461a994a0ef161f2af4c9f", func := "braid/braidlaw06.CongFair", spec := "congFair", unfollowed := true, recurses := true, apart := false }
def CongFairSaid : Prop := congFairRow.holds Try.pinned (OpenSpec.ofChange congFairSpec)

/-- ITS FALSE NEIGHBOUR: 'it returns false'. Refute it at one input. -/
def congFairWrong : ChangeSpec := { name := "congFair", fn := fun _ => fun
  | [d1, d2, d3] => { results := [.lit (.bool false)], args := [d1, d2, d3] }
  | _ => none }
def CongFairWrongFalsely : Prop := congFairRow.holds Try.pinned (OpenSpec.ofChange congFairWrong)

/-- 'braidlaw06.CongOne': WHATEVER THE INPUT: true; the input reads as it did. -/
def congOneSpec : ChangeSpec := { name := "congOne", fn := fun _ => fun
  | [d1, d2, d3] => { results := [.lit (.bool true)], args := [d1, d2, d3] }
  | _ => none }
def congOneRow : OpenClaim := { program := "ytkcoabjeaoigdaa", sum := "57082ad532969c4fbf004c49a35674ba778c31afdc461a994a0ef161f2af4c9f", func := "braid/braidlaw06.CongOne", spec := "congOne", unfollowed := true, recurses := true, apart := false }
def CongOneSaid : Prop := congOneRow.holds Try.pinned (OpenSpec.ofChange congOneSpec)

/-- ITS FALSE NEIGHBOUR: 'it returns false'. Refute it at one input. -/
def congOneWrong : ChangeSpec := { name := "congOne", fn := fun _ => fun
  | [d1, d2, d3] => { results := [.lit (.bool false)], args := [d1, d2, d3] }
  | _ => none }
def CongOneWrongFalsely : Prop := congOneRow.holds Try.pinned (OpenSpec.ofChange congOneWrong)

/-- 'braidlaw06.CongByOne': WHATEVER THE INPUT: true; the input reads as it did. -/
def congByOneSpec : ChangeSpec := { name := "congByOne", fn := fun _ => fun
  | [d1, d2, d3, d4] => { results := [.lit (.bool true)], args := [d1, d2, d3, d4] }
  | _ => none }
def congByOneRow : OpenClaim := { program := "ytkcoabjeaoigdaa", sum := "57082ad532969c4fbf004c49a35674ba778c31afdc461a994a0ef161f2af4c9f", func := "braid/braidlaw06.CongByOne", spec := "congByOne", unfollowed := true, recurses := true, apart := false }
def CongByOneSaid : Prop := congByOneRow.holds Try.pinned (OpenSpec.ofChange congByOneSpec)

/-- ITS FALSE NEIGHBOUR: 'it returns false'. Refute it at one input. -/
def congByOneWrong : ChangeSpec := { name := "congByOne", fn := fun _ => fun
  | [d1, d2, d3, d4] => { results := [.lit (.bool false)], args := [d1, d2, d3, d4] }
  | _ => none }
def CongByOneWrongFalsely : Prop := congByOneRow.holds Try.pinned (OpenSpec.ofChange congByOneWrong)

/-- 'braidlaw06.CongNobody': WHATEVER THE INPUT: true; the input reads as it did. -/
def congNobodySpec : ChangeSpec := { name := "congNobody", fn := fun _ => fun
  | [d1, d2] => { results := [.lit (.bool true)], args := [d1, d2] }
  | _ => none }
def congNobodyRow : OpenClaim := { program := "ytkcoabjeaoigdaa", sum := "57082ad532969c4fbf004c49a35674ba778c31afdc461a994a0ef161f2af4c9f", func := "braid/braidlaw06.CongNobody", spec := "congNobody", unfollowed := true, recurses := true, apart := false }
def CongNobodySaid : Prop := congNobodyRow.holds Try.pinned (OpenSpec.ofChange congNobodySpec)

/-- ITS FALSE NEIGHBOUR: 'it returns false'. Refute it at one input. -/
def congNobodyWrong : ChangeSpec := { name := "congNobody", fn := fun _ => fun
  | [d1, d2] => { results := [.lit (.bool false)], args := [d1, d2] }
  | _ => none }
def CongNobodyWrongFalsely : Prop := congNobodyRow.holds Try.pinned (OpenSpec.ofChange congNobodyWrong)

/- THE SECOND FORM. 'bulk': how many values and letters a reading holds, each counted each time it is reached (what is shared counts as often as it is met; a slice's spare places count too). A statement '..UptoSaid' is the law's where the arguments, and the package variables that the reading takes, are together of bulk at most 1048576: NARROWER than '..Said'. Prove '..Said' where nothing that the law and all that it calls make is longer than what came in: it says more and counts as full. Else prove '..UptoSaid'. A law counts once. -/
mutual
def uptoBulk {H : Type} : DataW H → Nat
  | .lit (.string bytes) => bytes.length + 1
  | .lit _ => 1
  | .nil => 1
  | .ptr d => uptoBulk d + 1
  | .slice elems spare => uptoBulkAll elems + uptoBulkAll spare + 1
  | .agg parts => uptoBulkAll parts + 1
  | .iface _ d => uptoBulk d + 1
  | .map entries => uptoBulkEntries entries + 1
  | .held _ => 1
def uptoBulkAll {H : Type} : List (DataW H) → Nat
  | [] => 0
  | d :: r => uptoBulk d + uptoBulkAll r
def uptoBulkEntries {H : Type} : List (Lit × DataW H) → Nat
  | [] => 0
  | x :: r => uptoBulkEntry x + uptoBulkEntries r
def uptoBulkEntry {H : Type} : Lit × DataW H → Nat
  | (.string bytes, d) => bytes.length + uptoBulk d + 1
  | (_, d) => uptoBulk d + 1
 end
def uptoSmall : (H : Type) → List (DataW H) → Bool := fun _ ds => decide (uptoBulkAll ds ≤ 1048576)
def OpenSpec.upto (s : _root_.Go.ChangeSpec) : _root_.Go.OpenSpec := { _root_.Go.OpenSpec.ofChange s with cond := some uptoSmall }

/-- 'braidlaw06.CongTogether', WHERE WHAT IT READS IS OF BULK AT MOST 1048576: true; the input reads as it did. -/
def congTogetherUptoRow : OpenClaim := { program := "ytkcoabjeaoigdaa", sum := "57082ad532969c4fbf004c49a35674ba778c31afdc461a994a0ef161f2af4c9f", func := "braid/braidlaw06.CongTogether", spec := "congTogether", unfollowed := true, recurses := true, apart := false, narrowed := true }
def CongTogetherUptoSaid : Prop := congTogetherUptoRow.holds Try.pinned (OpenSpec.upto congTogetherSpec)

/-- 'braidlaw06.CongBounds', WHERE WHAT IT READS IS OF BULK AT MOST 1048576: true; the input reads as it did. -/
def congBoundsUptoRow : OpenClaim := { program := "ytkcoabjeaoigdaa", sum := "57082ad532969c4fbf004c49a35674ba778c31afdc461a994a0ef161f2af4c9f", func := "braid/braidlaw06.CongBounds", spec := "congBounds", unfollowed := true, recurses := true, apart := false, narrowed := true }
def CongBoundsUptoSaid : Prop := congBoundsUptoRow.holds Try.pinned (OpenSpec.upto congBoundsSpec)

/-- 'braidlaw06.CongFair', WHERE WHAT IT READS IS OF BULK AT MOST 1048576: true; the input reads as it did. -/
def congFairUptoRow : OpenClaim := { program := "ytkcoabjeaoigdaa", sum := "57082ad532969c4fbf004c49a35674ba778c31afdc461a994a0ef161f2af4c9f", func := "braid/braidlaw06.CongFair", spec := "congFair", unfollowed := true, recurses := true, apart := false, narrowed := true }
def CongFairUptoSaid : Prop := congFairUptoRow.holds Try.pinned (OpenSpec.upto congFairSpec)

/-- 'braidlaw06.CongOne', WHERE WHAT IT READS IS OF BULK AT MOST 1048576: true; the input reads as it did. -/
def congOneUptoRow : OpenClaim := { program := "ytkcoabjeaoigdaa", sum := "57082ad532969c4fbf004c49a35674ba778c31afdc461a994a0ef161f2af4c9f", func := "braid/braidlaw06.CongOne", spec := "congOne", unfollowed := true, recurses := true, apart := false, narrowed := true }
def CongOneUptoSaid : Prop := congOneUptoRow.holds Try.pinned (OpenSpec.upto congOneSpec)

/-- 'braidlaw06.CongByOne', WHERE WHAT IT READS IS OF BULK AT MOST 1048576: true; the input reads as it did. -/
def congByOneUptoRow : OpenClaim := { program := "ytkcoabjeaoigdaa", sum := "57082ad532969c4fbf004c49a35674ba778c31afdc461a994a0ef161f2af4c9f", func := "braid/braidlaw06.CongByOne", spec := "congByOne", unfollowed := true, recurses := true, apart := false, narrowed := true }
def CongByOneUptoSaid : Prop := congByOneUptoRow.holds Try.pinned (OpenSpec.upto congByOneSpec)

/-- 'braidlaw06.CongNobody', WHERE WHAT IT READS IS OF BULK AT MOST 1048576: true; the input reads as it did. -/
def congNobodyUptoRow : OpenClaim := { program := "ytkcoabjeaoigdaa", sum := "57082ad532969c4fbf004c49a35674ba778c31afdc461a994a0ef161f2af4c9f", func := "braid/braidlaw06.CongNobody", spec := "congNobody", unfollowed := true, recurses := true, apart := false, narrowed := true }
def CongNobodyUptoSaid : Prop := congNobodyUptoRow.holds Try.pinned (OpenSpec.upto congNobodySpec)

end Rows
end Go.Proofs.Ytkcoabjeaoigdaa
