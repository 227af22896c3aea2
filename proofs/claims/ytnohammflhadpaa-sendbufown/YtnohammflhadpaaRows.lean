/-
  No cell of these rows narrows 'for every input' (looked for: loops, veiled, ifaces, maps, wideKeys, modest, calm, conditions, laid).
  DERIVED. THE GIVEN ROWS OF THIS SEAT. 6 by the template 'for every input the law returns true; each argument reads behind the call as it read before'; 0 by the template 'total and deterministic' (their statements: YtnohammflhadpaaTotals.lean).
  GIVEN WITH THE SEED: the statements are not yours to turn. If you find one false, say at which input.
  Laid BY PROGRAM, IN A SANDBOX (cutbox-rows.mjs): the forced cells as the released guide's own fill.sh prints them over the translation 14538af829eea79b… (all of the seat's roots in one cut). By AI agents, Wed Nov 11 2026. No macro, syntax, notation, axiom, sorry.
-/
import Derived.Test.YtnohammflhadpaaChecked
import GoSem.Claim
import GoSem.ClaimJoined
import GoSem.ClaimMapViews
import Derived.JoinedTies
import Derived.KernelRfl
namespace Go.Proofs.Ytnohammflhadpaa
/- THE CELL 'sum', in the pinned program and in every row, IS THE sha256 OF THE DUMP (.gsa) THAT YtnohammflhadpaaProg.lean LOADS. Nothing in Lean hashes anything: it is a label: what it is worth is what the hold of that sum in a sandbox is worth. -/
noncomputable def Try.pinned : Pinned := { name := "ytnohammflhadpaa", sum := "14538af829eea79bc5d5f4ca5a2ca157e378af9a2c1314b3427b935ed0174943", checked := Try.checked }
namespace Rows
def none {H : Type} : Left H := { results := [], args := [] }

/-- 'braidlaw09.SendbufEnds': WHATEVER THE INPUT: true; the input reads as it did. -/
def sendbufEndsSpec : ChangeSpec := { name := "sendbufEnds", fn := fun _ => fun
  | [d1, d2] => { results := [.lit (.bool true)], args := [d1, d2] }
  | _ => none }
def sendbufEndsRow : OpenClaim := { program := "ytnohammflhadpaa", sum := "14538af829eea79bc5d5f4ca5a2ca157e378af9a2c1314b3427b935ed0174943", func := "braid/braidlaw09.SendbufEnds", spec := "sendbufEnds", unfollowed := true, recurses := true, apart := false }
def SendbufEndsSaid : Prop := sendbufEndsRow.holds Try.pinned (OpenSpec.ofChange sendbufEndsSpec)

/-- ITS FALSE NEIGHBOUR: 'it returns false'. Refute it at one input. -/
def sendbufEndsWrong : ChangeSpec := { name := "sendbufEnds", fn := fun _ => fun
  | [d1, d2] => { results := [.lit (.bool false)], args := [d1, d2] }
  | _ => none }
def SendbufEndsWrongFalsely : Prop := sendbufEndsRow.holds Try.pinned (OpenSpec.ofChange sendbufEndsWrong)

/-- 'braidlaw09.SendbufWants': WHATEVER THE INPUT: true; the input reads as it did. -/
def sendbufWantsSpec : ChangeSpec := { name := "sendbufWants", fn := fun _ => fun
  | [d1, d2] => { results := [.lit (.bool true)], args := [d1, d2] }
  | _ => none }
def sendbufWantsRow : OpenClaim := { program := "ytnohammflhadpaa", sum := "14538af829eea79bc5d5f4ca5a2ca157e378af9a2c1314b3427b935ed0174943", func := "braid/braidlaw09.SendbufWants", spec := "sendbufWants", unfollowed := true, recurses := true, apart := false }
def SendbufWantsSaid : Prop := sendbufWantsRow.holds Try.pinned (OpenSpec.ofChange sendbufWantsSpec)

/-- ITS FALSE NEIGHBOUR: 'it returns false'. Refute it at one input. -/
def sendbufWantsWrong : ChangeSpec := { name := "sendbufWants", fn := fun _ => fun
  | [d1, d2] => { results := [.lit (.bool false)], args := [d1, d2] }
  | _ => none }
def SendbufWantsWrongFalsely : Prop := sendbufWantsRow.holds Try.pinned (OpenSpec.ofChange sendbufWantsWrong)

/-- 'braidlaw09.SendbufOwn': WHATEVER THE INPUT: true; the input reads as it did. -/
def sendbufOwnSpec : ChangeSpec := { name := "sendbufOwn", fn := fun _ => fun
  | [d1, d2, d3] => { results := [.lit (.bool true)], args := [d1, d2, d3] }
  | _ => none }
def sendbufOwnRow : OpenClaim := { program := "ytnohammflhadpaa", sum := "14538af829eea79bc5d5f4ca5a2ca157e378af9a2c1314b3427b935ed0174943", func := "braid/braidlaw09.SendbufOwn", spec := "sendbufOwn", unfollowed := true, recurses := true, apart := false }
def SendbufOwnSaid : Prop := sendbufOwnRow.holds Try.pinned (OpenSpec.ofChange sendbufOwnSpec)

/-- ITS FALSE NEIGHBOUR: 'it returns false'. Refute it at one input. -/
def sendbufOwnWrong : ChangeSpec := { name := "sendbufOwn", fn := fun _ => fun
  | [d1, d2, d3] => { results := [.lit (.bool false)], args := [d1, d2, d3] }
  | _ => none }
def SendbufOwnWrongFalsely : Prop := sendbufOwnRow.holds Try.pinned (OpenSpec.ofChange sendbufOwnWrong)

/-- 'braidlaw09.SendbufCut': WHATEVER THE INPUT: true; the input reads as it did. -/
def sendbufCutSpec : ChangeSpec := { name := "sendbufCut", fn := fun _ => fun
  | [d1, d2, d3] => { results := [.lit (.bool true)], args := [d1, d2, d3] }
  | _ => none }
def sendbufCutRow : OpenClaim := { program := "ytnohammflhadpaa", sum := "14538af829eea79bc5d5f4ca5a2ca157e378af9a2c1314b3427b935ed0174943", func := "braid/braidlaw09.SendbufCut", spec := "sendbufCut", unfollowed := true, recurses := true, apart := false }
def SendbufCutSaid : Prop := sendbufCutRow.holds Try.pinned (OpenSpec.ofChange sendbufCutSpec)

/-- ITS FALSE NEIGHBOUR: 'it returns false'. Refute it at one input. -/
def sendbufCutWrong : ChangeSpec := { name := "sendbufCut", fn := fun _ => fun
  | [d1, d2, d3] => { results := [.lit (.bool false)], args := [d1, d2, d3] }
  | _ => none }
def SendbufCutWrongFalsely : Prop := sendbufCutRow.holds Try.pinned (OpenSpec.ofChange sendbufCutWrong)

/-- 'braidlaw09.SendbufKeeps': WHATEVER THE INPUT: true; the input reads as it did. -/
def sendbufKeepsSpec : ChangeSpec := { name := "sendbufKeeps", fn := fun _ => fun
  | [d1, d2] => { results := [.lit (.bool true)], args := [d1, d2] }
  | _ => none }
def sendbufKeepsRow : OpenClaim := { program := "ytnohammflhadpaa", sum := "14538af829eea79bc5d5f4ca5a2ca157e378af9a2c1314b3427b935ed0174943", func := "braid/braidlaw09.SendbufKeeps", spec := "sendbufKeeps", unfollowed := true, recurses := true, apart := false }
def SendbufKeepsSaid : Prop := sendbufKeepsRow.holds Try.pinned (OpenSpec.ofChange sendbufKeepsSpec)

/-- ITS FALSE NEIGHBOUR: 'it returns false'. Refute it at one input. -/
def sendbufKeepsWrong : ChangeSpec := { name := "sendbufKeeps", fn := fun _ => fun
  | [d1, d2] => { results := [.lit (.bool false)], args := [d1, d2] }
  | _ => none }
def SendbufKeepsWrongFalsely : Prop := sendbufKeepsRow.holds Try.pinned (OpenSpec.ofChange sendbufKeepsWrong)

/-- 'braidlaw09.SendbufPlays': WHATEVER THE INPUT: true; the input reads as it did. -/
def sendbufPlaysSpec : ChangeSpec := { name := "sendbufPlays", fn := fun _ => fun
  | [d1, d2, d3] => { results := [.lit (.bool true)], args := [d1, d2, d3] }
  | _ => none }
def sendbufPlaysRow : OpenClaim := { program := "ytnohammflhadpaa", sum := "14538af829eea79bc5d5f4ca5a2ca157e378af9a2c1314b3427b935ed0174943", func := "braid/braidlaw09.SendbufPlays", spec := "sendbufPlays", unfollowed := true, recurses := true, apart := false }
def SendbufPlaysSaid : Prop := sendbufPlaysRow.holds Try.pinned (OpenSpec.ofChange sendbufPlaysSpec)

/-- ITS FALSE NEIGHBOUR: 'it returns false'. Refute it at one input. -/
def sendbufPlaysWrong : ChangeSpec := { name := "sendbufPlays", fn := fun _ => fun
  | [d1, d2, d3] => { results := [.lit (.bool false)], args := [d1, d2, d3] }
  | _ => none }
def SendbufPlaysWrongFalsely : Prop := sendbufPlaysRow.holds Try.pinned (OpenSpec.ofChange sendbufPlaysWrong)

/- THE SECOND FORM. 'bulk': how many values and letters a reading holds, each counted each time it is reached (what is shared counts as often as it is met; a slice's spare places count too). A statement '..UptoSaid' is the law's where the arguments, and the package variables that the reading takes, are together of bulk at most 1048576: NARROWER than '..Said'. Prove '..Said' where nothing that the law and all that it calls make is longer than what came in: it says more and counts as full. Else prove '..UptoSaid'. A law counts once. -/
mutual
def uptoBulk {H : Type} : DataW H → Nat
  | .lit (.string bytes) => bytes.length + 1
  | .lit _ => 1
  | .nil => 1
  | .ptr d => uptoBulk d + 1
  | .slice elems spare => uptoBulkAll elems + uptoBulkAll spare + 1
  | .agg parts => uptoBulkAll parts + 1
  | .iface _ d => uptoBulk d + 1
  | .map entries => uptoBulkEntries entries + 1
  | .held _ => 1
def uptoBulkAll {H : Type} : List (DataW H) → Nat
  | [] => 0
  | d :: r => uptoBulk d + uptoBulkAll r
def uptoBulkEntries {H : Type} : List (Lit × DataW H) → Nat
  | [] => 0
  | x :: r => uptoBulkEntry x + uptoBulkEntries r
def uptoBulkEntry {H : Type} : Lit × DataW H → Nat
  | (.string bytes, d) => bytes.length + uptoBulk d + 1
  | (_, d) => uptoBulk d + 1
 end
def uptoSmall : (H : Type) → List (DataW H) → Bool := fun _ ds => decide (uptoBulkAll ds ≤ 1048576)
def OpenSpec.upto (s : _root_.Go.ChangeSpec) : _root_.Go.OpenSpec := { _root_.Go.OpenSpec.ofChange s with cond := some uptoSmall }

/-- 'braidlaw09.SendbufEnds', WHERE WHAT IT READS IS OF BULK AT MOST 1048576: true; the input reads as it did. -/
def sendbufEndsUptoRow : OpenClaim := { program := "ytnohammflhadpaa", sum := "14538af829eea79bc5d5f4ca5a2ca157e378af9a2c1314b3427b935ed0174943", func := "braid/braidlaw09.SendbufEnds", spec := "sendbufEnds", unfollowed := true, recurses := true, apart := false, narrowed := true }
def SendbufEndsUptoSaid : Prop := sendbufEndsUptoRow.holds Try.pinned (OpenSpec.upto sendbufEndsSpec)

/-- 'braidlaw09.SendbufWants', WHERE WHAT IT READS IS OF BULK AT MOST 1048576: true; the input reads as it did. -/
def sendbufWantsUptoRow : OpenClaim := { program := "ytnohammflhadpaa", sum := "14538af829eea79bc5d5f4ca5a2ca157e378af9a2c1314b3427b935ed0174943", func := "braid/braidlaw09.SendbufWants", spec := "sendbufWants", unfollowed := true, recurses := true, apart := false, narrowed := true }
def SendbufWantsUptoSaid : Prop := sendbufWantsUptoRow.holds Try.pinned (OpenSpec.upto sendbufWantsSpec)

/-- 'braidlaw09.SendbufOwn', WHERE WHAT IT READS IS OF BULK AT MOST 1048576: true; the input reads as it did. -/
def sendbufOwnUptoRow : OpenClaim := { program := "ytnohammflhadpaa", sum := "14538af829eea79bc5d5f4ca5a2ca157e378af9a2c1314b3427b935ed0174943", func := "braid/braidlaw09.SendbufOwn", spec := "sendbufOwn", unfollowed := true, recurses := true, apart := false, narrowed := true }
def SendbufOwnUptoSaid : Prop := sendbufOwnUptoRow.holds Try.pinned (OpenSpec.upto sendbufOwnSpec)

/-- 'braidlaw09.SendbufCut', WHERE WHAT IT READS IS OF BULK AT MOST 1048576: true; the input reads as it did. -/
def sendbufCutUptoRow : OpenClaim := { program := "ytnohammflhadpaa", sum := "14538af829eea79bc5d5f4ca5a2ca157e378af9a2c1314b3427b935ed0174943", func := "braid/braidlaw09.SendbufCut", spec := "sendbufCut", unfollowed := true, recurses := true, apart := false, narrowed := true }
def SendbufCutUptoSaid : Prop := sendbufCutUptoRow.holds Try.pinned (OpenSpec.upto sendbufCutSpec)

/-- 'braidlaw09.SendbufKeeps', WHERE WHAT IT READS IS OF BULK AT MOST 1048576: true; the input reads as it did. -/
def sendbufKeepsUptoRow : OpenClaim := { program := "ytnohammflhadpaa", sum := "14538af829eea79bc5d5f4ca5a2ca157e378af9a2c1314b3427b935ed0174943", func := "braid/braidlaw09.SendbufKeeps", spec := "sendbufKeeps", unfollowed := true, recurses := true, apart := false, narrowed := true }
def SendbufKeepsUptoSaid : Prop := sendbufKeepsUptoRow.holds Try.pinned (OpenSpec.upto sendbufKeepsSpec)

/-- 'braidlaw09.SendbufPlays', WHERE WHAT IT READS IS OF BULK AT MOST 1048576: true; the input reads as it did. -/
def sendbufPlaysUptoRow : OpenClaim := { program := "ytnohammflhadpaa", sum := "14538af829eea79bc5d5f4ca5a2ca157e378af9a2c1314b3427b935ed0174943", func := "braid/braidlaw09.SendbufPlays", spec := "sendbufPlays", unfollowed := true, recurses := true, apart := false, narrowed := true }
def SendbufPlaysUptoSaid : Prop := sendbufPlaysUptoRow.holds Try.pinned (OpenSpec.upto sendbufPlaysSpec)

end Rows
end Go.Proofs.Ytnohammflhadpaa
