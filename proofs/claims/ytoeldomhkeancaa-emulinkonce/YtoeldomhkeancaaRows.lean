/-
  No cell of these rows narrows 'for every input' (looked for: loops, veiled, ifaces, maps, wideKeys, modest, calm, conditions, laid).
  DERIVED. THE GIVEN ROWS OF THIS SEAT. 6 by the template 'for every input the law returns true; each argument reads behind the call as it read before'; 0 by the template 'total and deterministic' (their statements: YtoeldomhkeancaaTotals.lean).
  GIVEN WITH THE SEED: the statements are not yours to turn. If you find one false, say at which input.
  Laid BY PROGRAM, IN A SANDBOX (cutbox-rows.mjs): the forced cells as the released guide's own fill.sh prints them over the translation 5271ba80b2bd9e0d… (all of the seat's roots in one cut). By AI agents, Wed Nov 11 2026. No macro, syntax, notation, axiom, sorry.
-/
import Derived.Test.YtoeldomhkeancaaChecked
import GoSem.Claim
import GoSem.ClaimJoined
import GoSem.ClaimMapViews
import Derived.JoinedTies
import Derived.KernelRfl
namespace Go.Proofs.Ytoeldomhkeancaa
/- THE CELL 'sum', in the pinned program and in every row, IS THE sha256 OF THE DUMP (.gsa) THAT YtoeldomhkeancaaProg.lean LOADS. Nothing in Lean hashes anything: it is a label: what it is worth is what the hold of that sum in a sandbox is worth. -/
noncomputable def Try.pinned : Pinned := { name := "ytoeldomhkeancaa", sum := "5271ba80b2bd9e0d9d3027b89358509dddbc01ff45b9834d28c99c2f39c85476", checked := Try.checked }
namespace Rows
def none {H : Type} : Left H := { results := [], args := [] }

/-- 'braidlaw24.EmuLinkNobody': WHATEVER THE INPUT: true; the input reads as it did. -/
def emuLinkNobodySpec : ChangeSpec := { name := "emuLinkNobody", fn := fun _ => fun
  | [d1, d2, d3] => { results := [.lit (.bool true)], args := [d1, d2, d3] }
  | _ => none }
def emuLinkNobodyRow : OpenClaim := { program := "ytoeldomhkeancaa", sum := "5271ba80b2bd9e0d9d3027b89358509dddbc01ff45b9834d28c99c2f39c85476", func := "braid/braidlaw24.EmuLinkNobody", spec := "emuLinkNobody", unfollowed := true, recurses := true, apart := false }
def EmuLinkNobodySaid : Prop := emuLinkNobodyRow.holds Try.pinned (OpenSpec.ofChange emuLinkNobodySpec)

/-- ITS FALSE NEIGHBOUR: 'it returns false'. Refute it at one input. -/
def emuLinkNobodyWrong : ChangeSpec := { name := "emuLinkNobody", fn := fun _ => fun
  | [d1, d2, d3] => { results := [.lit (.bool false)], args := [d1, d2, d3] }
  | _ => none }
def EmuLinkNobodyWrongFalsely : Prop := emuLinkNobodyRow.holds Try.pinned (OpenSpec.ofChange emuLinkNobodyWrong)

/-- 'braidlaw24.EmuLinkTurn': WHATEVER THE INPUT: true; the input reads as it did. -/
def emuLinkTurnSpec : ChangeSpec := { name := "emuLinkTurn", fn := fun _ => fun
  | [d1, d2] => { results := [.lit (.bool true)], args := [d1, d2] }
  | _ => none }
def emuLinkTurnRow : OpenClaim := { program := "ytoeldomhkeancaa", sum := "5271ba80b2bd9e0d9d3027b89358509dddbc01ff45b9834d28c99c2f39c85476", func := "braid/braidlaw24.EmuLinkTurn", spec := "emuLinkTurn", unfollowed := true, recurses := true, apart := false }
def EmuLinkTurnSaid : Prop := emuLinkTurnRow.holds Try.pinned (OpenSpec.ofChange emuLinkTurnSpec)

/-- ITS FALSE NEIGHBOUR: 'it returns false'. Refute it at one input. -/
def emuLinkTurnWrong : ChangeSpec := { name := "emuLinkTurn", fn := fun _ => fun
  | [d1, d2] => { results := [.lit (.bool false)], args := [d1, d2] }
  | _ => none }
def EmuLinkTurnWrongFalsely : Prop := emuLinkTurnRow.holds Try.pinned (OpenSpec.ofChange emuLinkTurnWrong)

/-- 'braidlaw24.EmuLinkOnce': WHATEVER THE INPUT: true; the input reads as it did. -/
def emuLinkOnceSpec : ChangeSpec := { name := "emuLinkOnce", fn := fun _ => fun
  | [d1, d2] => { results := [.lit (.bool true)], args := [d1, d2] }
  | _ => none }
def emuLinkOnceRow : OpenClaim := { program := "ytoeldomhkeancaa", sum := "5271ba80b2bd9e0d9d3027b89358509dddbc01ff45b9834d28c99c2f39c85476", func := "braid/braidlaw24.EmuLinkOnce", spec := "emuLinkOnce", unfollowed := true, recurses := true, apart := false }
def EmuLinkOnceSaid : Prop := emuLinkOnceRow.holds Try.pinned (OpenSpec.ofChange emuLinkOnceSpec)

/-- ITS FALSE NEIGHBOUR: 'it returns false'. Refute it at one input. -/
def emuLinkOnceWrong : ChangeSpec := { name := "emuLinkOnce", fn := fun _ => fun
  | [d1, d2] => { results := [.lit (.bool false)], args := [d1, d2] }
  | _ => none }
def EmuLinkOnceWrongFalsely : Prop := emuLinkOnceRow.holds Try.pinned (OpenSpec.ofChange emuLinkOnceWrong)

/-- 'braidlaw24.EmuLinkRate': WHATEVER THE INPUT: true; the input reads as it did. -/
def emuLinkRateSpec : ChangeSpec := { name := "emuLinkRate", fn := fun _ => fun
  | [d1, d2] => { results := [.lit (.bool true)], args := [d1, d2] }
  | _ => none }
def emuLinkRateRow : OpenClaim := { program := "ytoeldomhkeancaa", sum := "5271ba80b2bd9e0d9d3027b89358509dddbc01ff45b9834d28c99c2f39c85476", func := "braid/braidlaw24.EmuLinkRate", spec := "emuLinkRate", unfollowed := true, recurses := true, apart := false }
def EmuLinkRateSaid : Prop := emuLinkRateRow.holds Try.pinned (OpenSpec.ofChange emuLinkRateSpec)

/-- ITS FALSE NEIGHBOUR: 'it returns false'. Refute it at one input. -/
def emuLinkRateWrong : ChangeSpec := { name := "emuLinkRate", fn := fun _ => fun
  | [d1, d2] => { results := [.lit (.bool false)], args := [d1, d2] }
  | _ => none }
def EmuLinkRateWrongFalsely : Prop := emuLinkRateRow.holds Try.pinned (OpenSpec.ofChange emuLinkRateWrong)

/-- 'braidlaw24.EmuLinkQuiet': WHATEVER THE INPUT: true; the input reads as it did. -/
def emuLinkQuietSpec : ChangeSpec := { name := "emuLinkQuiet", fn := fun _ => fun
  | [d1, d2] => { results := [.lit (.bool true)], args := [d1, d2] }
  | _ => none }
def emuLinkQuietRow : OpenClaim := { program := "ytoeldomhkeancaa", sum := "5271ba80b2bd9e0d9d3027b89358509dddbc01ff45b9834d28c99c2f39c85476", func := "braid/braidlaw24.EmuLinkQuiet", spec := "emuLinkQuiet", unfollowed := true, recurses := true, apart := false }
def EmuLinkQuietSaid : Prop := emuLinkQuietRow.holds Try.pinned (OpenSpec.ofChange emuLinkQuietSpec)

/-- ITS FALSE NEIGHBOUR: 'it returns false'. Refute it at one input. -/
def emuLinkQuietWrong : ChangeSpec := { name := "emuLinkQuiet", fn := fun _ => fun
  | [d1, d2] => { results := [.lit (.bool false)], args := [d1, d2] }
  | _ => none }
def EmuLinkQuietWrongFalsely : Prop := emuLinkQuietRow.holds Try.pinned (OpenSpec.ofChange emuLinkQuietWrong)

/-- 'braidlaw24.EmuLinkMakes': WHATEVER THE INPUT: true; the input reads as it did. -/
def emuLinkMakesSpec : ChangeSpec := { name := "emuLinkMakes", fn := fun _ => fun
  | [d] => { results := [.lit (.bool true)], args := [d] }
  | _ => none }
def emuLinkMakesRow : OpenClaim := { program := "ytoeldomhkeancaa", sum := "5271ba80b2bd9e0d9d3027b89358509dddbc01ff45b9834d28c99c2f39c85476", func := "braid/braidlaw24.EmuLinkMakes", spec := "emuLinkMakes", unfollowed := true, recurses := true, apart := false }
def EmuLinkMakesSaid : Prop := emuLinkMakesRow.holds Try.pinned (OpenSpec.ofChange emuLinkMakesSpec)

/-- ITS FALSE NEIGHBOUR: 'it returns false'. Refute it at one input. -/
def emuLinkMakesWrong : ChangeSpec := { name := "emuLinkMakes", fn := fun _ => fun
  | [d] => { results := [.lit (.bool false)], args := [d] }
  | _ => none }
def EmuLinkMakesWrongFalsely : Prop := emuLinkMakesRow.holds Try.pinned (OpenSpec.ofChange emuLinkMakesWrong)

/- THE SECOND FORM. 'bulk': how many values and letters a reading holds, each counted each time it is reached (what is shared counts as often as it is met; a slice's spare places count too). A statement '..UptoSaid' is the law's where the arguments, and the package variables that the reading takes, are together of bulk at most 1048576: NARROWER than '..Said'. Prove '..Said' where nothing that the law and all that it calls make is longer than what came in: it says more and counts as full. Else prove '..UptoSaid'. A law counts once. -/
mutual
def uptoBulk {H : Type} : DataW H → Nat
  | .lit (.string bytes) => bytes.length + 1
  | .lit _ => 1
  | .nil => 1
  | .ptr d => uptoBulk d + 1
  | .slice elems spare => uptoBulkAll elems + uptoBulkAll spare + 1
  | .agg parts => uptoBulkAll parts + 1
  | .iface _ d => uptoBulk d + 1
  | .map entries => uptoBulkEntries entries + 1
  | .held _ => 1
def uptoBulkAll {H : Type} : List (DataW H) → Nat
  | [] => 0
  | d :: r => uptoBulk d + uptoBulkAll r
def uptoBulkEntries {H : Type} : List (Lit × DataW H) → Nat
  | [] => 0
  | x :: r => uptoBulkEntry x + uptoBulkEntries r
def uptoBulkEntry {H : Type} : Lit × DataW H → Nat
  | (.string bytes, d) => bytes.length + uptoBulk d + 1
  | (_, d) => uptoBulk d + 1
 end
def uptoSmall : (H : Type) → List (DataW H) → Bool := fun _ ds => decide (uptoBulkAll ds ≤ 1048576)
def OpenSpec.upto (s : _root_.Go.ChangeSpec) : _root_.Go.OpenSpec := { _root_.Go.OpenSpec.ofChange s with cond := some uptoSmall }

/-- 'braidlaw24.EmuLinkNobody', WHERE WHAT IT READS IS OF BULK AT MOST 1048576: true; the input reads as it did. -/
def emuLinkNobodyUptoRow : OpenClaim := { program := "ytoeldomhkeancaa", sum := "5271ba80b2bd9e0d9d3027b89358509dddbc01ff45b9834d28c99c2f39c85476", func := "braid/braidlaw24.EmuLinkNobody", spec := "emuLinkNobody", unfollowed := true, recurses := true, apart := false, narrowed := true }
def EmuLinkNobodyUptoSaid : Prop := emuLinkNobodyUptoRow.holds Try.pinned (OpenSpec.upto emuLinkNobodySpec)

/-- 'braidlaw24.EmuLinkTurn', WHERE WHAT IT READS IS OF BULK AT MOST 1048576: true; the input reads as it did. -/
def emuLinkTurnUptoRow : OpenClaim := { program := "ytoeldomhkeancaa", sum := "5271ba80b2bd9e0d9d3027b89358509dddbc01ff45b9834d28c99c2f39c85476", func := "braid/braidlaw24.EmuLinkTurn", spec := "emuLinkTurn", unfollowed := true, recurses := true, apart := false, narrowed := true }
def EmuLinkTurnUptoSaid : Prop := emuLinkTurnUptoRow.holds Try.pinned (OpenSpec.upto emuLinkTurnSpec)

/-- 'braidlaw24.EmuLinkOnce', WHERE WHAT IT READS IS OF BULK AT MOST 1048576: true; the input reads as it did. -/
def emuLinkOnceUptoRow : OpenClaim := { program := "ytoeldomhkeancaa", sum := "5271ba80b2bd9e0d9d3027b89358509dddbc01ff45b9834d28c99c2f39c85476", func := "braid/braidlaw24.EmuLinkOnce", spec := "emuLinkOnce", unfollowed := true, recurses := true, apart := false, narrowed := true }
def EmuLinkOnceUptoSaid : Prop := emuLinkOnceUptoRow.holds Try.pinned (OpenSpec.upto emuLinkOnceSpec)

/-- 'braidlaw24.EmuLinkRate', WHERE WHAT IT READS IS OF BULK AT MOST 1048576: true; the input reads as it did. -/
def emuLinkRateUptoRow : OpenClaim := { program := "ytoeldomhkeancaa", sum := "5271ba80b2bd9e0d9d3027b89358509dddbc01ff45b9834d28c99c2f39c85476", func := "braid/braidlaw24.EmuLinkRate", spec := "emuLinkRate", unfollowed := true, recurses := true, apart := false, narrowed := true }
def EmuLinkRateUptoSaid : Prop := emuLinkRateUptoRow.holds Try.pinned (OpenSpec.upto emuLinkRateSpec)

/-- 'braidlaw24.EmuLinkQuiet', WHERE WHAT IT READS IS OF BULK AT MOST 1048576: true; the input reads as it did. -/
def emuLinkQuietUptoRow : OpenClaim := { program := "ytoeldomhkeancaa", sum := "5271ba80b2bd9e0d9d3027b89358509dddbc01ff45b9834d28c99c2f39c85476", func := "braid/braidlaw24.EmuLinkQuiet", spec := "emuLinkQuiet", unfollowed := true, recurses := true, apart := false, narrowed := true }
def EmuLinkQuietUptoSaid : Prop := emuLinkQuietUptoRow.holds Try.pinned (OpenSpec.upto emuLinkQuietSpec)

/-- 'braidlaw24.EmuLinkMakes', WHERE WHAT IT READS IS OF BULK AT MOST 1048576: true; the input reads as it did. -/
def emuLinkMakesUptoRow : OpenClaim := { program := "ytoeldomhkeancaa", sum := "5271ba80b2bd9e0d9d3027b89358509dddbc01ff45b9834d28c99c2f39c85476", func := "braid/braidlaw24.EmuLinkMakes", spec := "emuLinkMakes", unfollowed := true, recurses := true, apart := false, narrowed := true }
def EmuLinkMakesUptoSaid : Prop := emuLinkMakesUptoRow.holds Try.pinned (OpenSpec.upto emuLinkMakesSpec)

end Rows
end Go.Proofs.Ytoeldomhkeancaa
