/-
  No cell of these rows narrows 'for every input' (looked for: loops, veiled, ifaces, maps, wideKeys, modest, calm, conditions, laid).
  DERIVED. THE GIVEN ROWS OF THIS SEAT. 6 by the template 'for every input the law returns true; each argument reads behind the call as it read before'; 0 by the template 'total and deterministic' (their statements: YtdbdiebgjnofgaaTotals.lean).
  GIVEN WITH THE SEED: the statements are not yours to turn. If you find one false, say at which input.
  Laid BY PROGRAM, IN A SANDBOX (cutbox-rows.mjs): the forced cells as the released guide's own fill.sh prints them over the translation dc2b7556e74c2b46… (all of the seat's roots in one cut). By AI agents, Wed Nov 11 2026. No macro, syntax, notation, axiom, sorry.
-/
import Derived.Test.YtdbdiebgjnofgaaChecked
import GoSem.Claim
import GoSem.ClaimJoined
import GoSem.ClaimMapViews
import Derived.JoinedTies
import Derived.KernelRfl
namespace Go.Proofs.Ytdbdiebgjnofgaa
/- THE CELL 'sum', in the pinned program and in every row, IS THE sha256 OF THE DUMP (.gsa) THAT YtdbdiebgjnofgaaProg.lean LOADS. Nothing in Lean hashes anything: it is a label: what it is worth is what the hold of that sum in a sandbox is worth. -/
noncomputable def Try.pinned : Pinned := { name := "ytdbdiebgjnofgaa", sum := "dc2b7556e74c2b465d9cfa380239fc01abb1ef2c80cafa446ea74b672abe32ea", checked := Try.checked }
namespace Rows
def none {H : Type} : Left H := { results := [], args := [] }

/-- 'braidlaw10.SchedNobody': WHATEVER THE INPUT: true; the input reads as it did. -/
def schedNobodySpec : ChangeSpec := { name := "schedNobody", fn := fun _ => fun
  | [d1, d2] => { results := [.lit (.bool true)], args := [d1, d2] }
  | _ => none }
def schedNobodyRow : OpenClaim := { program := "ytdbdiebgjnofgaa", sum := "dc2b7556e74c2b465d9cfa380239fc01abb1ef2c80cafa446ea74b672abe32ea", func := "braid/braidlaw10.SchedNobody", spec := "schedNobody", unfollowed := true, recurses := true, apart := false }
def SchedNobodySaid : Prop := schedNobodyRow.holds Try.pinned (OpenSpec.ofChange schedNobodySpec)

/-- ITS FALSE NEIGHBOUR: 'it returns false'. Refute it at one input. -/
def schedNobodyWrong : ChangeSpec := { name := "schedNobody", fn := fun _ => fun
  | [d1, d2] => { results := [.lit (.bool false)], args := [d1, d2] }
  | _ => none }
def SchedNobodyWrongFalsely : Prop := schedNobodyRow.holds Try.pinned (OpenSpec.ofChange schedNobodyWrong)

/-- 'braidlaw10.SchedPatient': WHATEVER THE INPUT: true; the input reads as it did. -/
def schedPatientSpec : ChangeSpec := { name := "schedPatient", fn := fun _ => fun
  | [d1, d2, d3, d4, d5, d6, d7, d8] => { results := [.lit (.bool true)], args := [d1, d2, d3, d4, d5, d6, d7, d8] }
  | _ => none }
def schedPatientRow : OpenClaim := { program := "ytdbdiebgjnofgaa", sum := "dc2b7556e74c2b465d9cfa380239fc01abb1ef2c80cafa446ea74b672abe32ea", func := "braid/braidlaw10.SchedPatient", spec := "schedPatient", unfollowed := true, recurses := true, apart := false }
def SchedPatientSaid : Prop := schedPatientRow.holds Try.pinned (OpenSpec.ofChange schedPatientSpec)

/-- ITS FALSE NEIGHBOUR: 'it returns false'. Refute it at one input. -/
def schedPatientWrong : ChangeSpec := { name := "schedPatient", fn := fun _ => fun
  | [d1, d2, d3, d4, d5, d6, d7, d8] => { results := [.lit (.bool false)], args := [d1, d2, d3, d4, d5, d6, d7, d8] }
  | _ => none }
def SchedPatientWrongFalsely : Prop := schedPatientRow.holds Try.pinned (OpenSpec.ofChange schedPatientWrong)

/-- 'braidlaw10.SchedWeighs': WHATEVER THE INPUT: true; the input reads as it did. -/
def schedWeighsSpec : ChangeSpec := { name := "schedWeighs", fn := fun _ => fun
  | [d1, d2, d3] => { results := [.lit (.bool true)], args := [d1, d2, d3] }
  | _ => none }
def schedWeighsRow : OpenClaim := { program := "ytdbdiebgjnofgaa", sum := "dc2b7556e74c2b465d9cfa380239fc01abb1ef2c80cafa446ea74b672abe32ea", func := "braid/braidlaw10.SchedWeighs", spec := "schedWeighs", unfollowed := true, recurses := true, apart := false }
def SchedWeighsSaid : Prop := schedWeighsRow.holds Try.pinned (OpenSpec.ofChange schedWeighsSpec)

/-- ITS FALSE NEIGHBOUR: 'it returns false'. Refute it at one input. -/
def schedWeighsWrong : ChangeSpec := { name := "schedWeighs", fn := fun _ => fun
  | [d1, d2, d3] => { results := [.lit (.bool false)], args := [d1, d2, d3] }
  | _ => none }
def SchedWeighsWrongFalsely : Prop := schedWeighsRow.holds Try.pinned (OpenSpec.ofChange schedWeighsWrong)

/-- 'braidlaw10.SchedReplays': WHATEVER THE INPUT: true; the input reads as it did. -/
def schedReplaysSpec : ChangeSpec := { name := "schedReplays", fn := fun _ => fun
  | [d1, d2] => { results := [.lit (.bool true)], args := [d1, d2] }
  | _ => none }
def schedReplaysRow : OpenClaim := { program := "ytdbdiebgjnofgaa", sum := "dc2b7556e74c2b465d9cfa380239fc01abb1ef2c80cafa446ea74b672abe32ea", func := "braid/braidlaw10.SchedReplays", spec := "schedReplays", unfollowed := true, recurses := true, apart := false }
def SchedReplaysSaid : Prop := schedReplaysRow.holds Try.pinned (OpenSpec.ofChange schedReplaysSpec)

/-- ITS FALSE NEIGHBOUR: 'it returns false'. Refute it at one input. -/
def schedReplaysWrong : ChangeSpec := { name := "schedReplays", fn := fun _ => fun
  | [d1, d2] => { results := [.lit (.bool false)], args := [d1, d2] }
  | _ => none }
def SchedReplaysWrongFalsely : Prop := schedReplaysRow.holds Try.pinned (OpenSpec.ofChange schedReplaysWrong)

/-- 'braidlaw10.SchedSound': WHATEVER THE INPUT: true; the input reads as it did. -/
def schedSoundSpec : ChangeSpec := { name := "schedSound", fn := fun _ => fun
  | [d1, d2, d3] => { results := [.lit (.bool true)], args := [d1, d2, d3] }
  | _ => none }
def schedSoundRow : OpenClaim := { program := "ytdbdiebgjnofgaa", sum := "dc2b7556e74c2b465d9cfa380239fc01abb1ef2c80cafa446ea74b672abe32ea", func := "braid/braidlaw10.SchedSound", spec := "schedSound", unfollowed := true, recurses := true, apart := false }
def SchedSoundSaid : Prop := schedSoundRow.holds Try.pinned (OpenSpec.ofChange schedSoundSpec)

/-- ITS FALSE NEIGHBOUR: 'it returns false'. Refute it at one input. -/
def schedSoundWrong : ChangeSpec := { name := "schedSound", fn := fun _ => fun
  | [d1, d2, d3] => { results := [.lit (.bool false)], args := [d1, d2, d3] }
  | _ => none }
def SchedSoundWrongFalsely : Prop := schedSoundRow.holds Try.pinned (OpenSpec.ofChange schedSoundWrong)

/-- 'braidlaw10.SchedOnePath': WHATEVER THE INPUT: true; the input reads as it did. -/
def schedOnePathSpec : ChangeSpec := { name := "schedOnePath", fn := fun _ => fun
  | [d1, d2, d3] => { results := [.lit (.bool true)], args := [d1, d2, d3] }
  | _ => none }
def schedOnePathRow : OpenClaim := { program := "ytdbdiebgjnofgaa", sum := "dc2b7556e74c2b465d9cfa380239fc01abb1ef2c80cafa446ea74b672abe32ea", func := "braid/braidlaw10.SchedOnePath", spec := "schedOnePath", unfollowed := true, recurses := true, apart := false }
def SchedOnePathSaid : Prop := schedOnePathRow.holds Try.pinned (OpenSpec.ofChange schedOnePathSpec)

/-- ITS FALSE NEIGHBOUR: 'it returns false'. Refute it at one input. -/
def schedOnePathWrong : ChangeSpec := { name := "schedOnePath", fn := fun _ => fun
  | [d1, d2, d3] => { results := [.lit (.bool false)], args := [d1, d2, d3] }
  | _ => none }
def SchedOnePathWrongFalsely : Prop := schedOnePathRow.holds Try.pinned (OpenSpec.ofChange schedOnePathWrong)

/- THE SECOND FORM. 'bulk': how many values and letters a reading holds, each counted each time it is reached (what is shared counts as often as it is met; a slice's spare places count too). A statement '..UptoSaid' is the law's where the arguments, and the package variables that the reading takes, are together of bulk at most 1048576: NARROWER than '..Said'. Prove '..Said' where nothing that the law and all that it calls make is longer than what came in: it says more and counts as full. Else prove '..UptoSaid'. A law counts once. -/
mutual
def uptoBulk {H : Type} : DataW H → Nat
  | .lit (.string bytes) => bytes.length + 1
  | .lit _ => 1
  | .nil => 1
  | .ptr d => uptoBulk d + 1
  | .slice elems spare => uptoBulkAll elems + uptoBulkAll spare + 1
  | .agg parts => uptoBulkAll parts + 1
  | .iface _ d => uptoBulk d + 1
  | .map entries => uptoBulkEntries entries + 1
  | .held _ => 1
def uptoBulkAll {H : Type} : List (DataW H) → Nat
  | [] => 0
  | d :: r => uptoBulk d + uptoBulkAll r
def uptoBulkEntries {H : Type} : List (Lit × DataW H) → Nat
  | [] => 0
  | x :: r => uptoBulkEntry x + uptoBulkEntries r
def uptoBulkEntry {H : Type} : Lit × DataW H → Nat
  | (.string bytes, d) => bytes.length + uptoBulk d + 1
  | (_, d) => uptoBulk d + 1
 end
def uptoSmall : (H : Type) → List (DataW H) → Bool := fun _ ds => decide (uptoBulkAll ds ≤ 1048576)
def OpenSpec.upto (s : _root_.Go.ChangeSpec) : _root_.Go.OpenSpec := { _root_.Go.OpenSpec.ofChange s with cond := some uptoSmall }

/-- 'braidlaw10.SchedNobody', WHERE WHAT IT READS IS OF BULK AT MOST 1048576: true; the input reads as it did. -/
def schedNobodyUptoRow : OpenClaim := { program := "ytdbdiebgjnofgaa", sum := "dc2b7556e74c2b465d9cfa380239fc01abb1ef2c80cafa446ea74b672abe32ea", func := "braid/braidlaw10.SchedNobody", spec := "schedNobody", unfollowed := true, recurses := true, apart := false, narrowed := true }
def SchedNobodyUptoSaid : Prop := schedNobodyUptoRow.holds Try.pinned (OpenSpec.upto schedNobodySpec)

/-- 'braidlaw10.SchedPatient', WHERE WHAT IT READS IS OF BULK AT MOST 1048576: true; the input reads as it did. -/
def schedPatientUptoRow : OpenClaim := { program := "ytdbdiebgjnofgaa", sum := "dc2b7556e74c2b465d9cfa380239fc01abb1ef2c80cafa446ea74b672abe32ea", func := "braid/braidlaw10.SchedPatient", spec := "schedPatient", unfollowed := true, recurses := true, apart := false, narrowed := true }
def SchedPatientUptoSaid : Prop := schedPatientUptoRow.holds Try.pinned (OpenSpec.upto schedPatientSpec)

/-- 'braidlaw10.SchedWeighs', WHERE WHAT IT READS IS OF BULK AT MOST 1048576: true; the input reads as it did. -/
def schedWeighsUptoRow : OpenClaim := { program := "ytdbdiebgjnofgaa", sum := "dc2b7556e74c2b465d9cfa380239fc01abb1ef2c80cafa446ea74b672abe32ea", func := "braid/braidlaw10.SchedWeighs", spec := "schedWeighs", unfollowed := true, recurses := true, apart := false, narrowed := true }
def SchedWeighsUptoSaid : Prop := schedWeighsUptoRow.holds Try.pinned (OpenSpec.upto schedWeighsSpec)

/-- 'braidlaw10.SchedReplays', WHERE WHAT IT READS IS OF BULK AT MOST 1048576: true; the input reads as it did. -/
def schedReplaysUptoRow : OpenClaim := { program := "ytdbdiebgjnofgaa", sum := "dc2b7556e74c2b465d9cfa380239fc01abb1ef2c80cafa446ea74b672abe32ea", func := "braid/braidlaw10.SchedReplays", spec := "schedReplays", unfollowed := true, recurses := true, apart := false, narrowed := true }
def SchedReplaysUptoSaid : Prop := schedReplaysUptoRow.holds Try.pinned (OpenSpec.upto schedReplaysSpec)

/-- 'braidlaw10.SchedSound', WHERE WHAT IT READS IS OF BULK AT MOST 1048576: true; the input reads as it did. -/
def schedSoundUptoRow : OpenClaim := { program := "ytdbdiebgjnofgaa", sum := "dc2b7556e74c2b465d9cfa380239fc01abb1ef2c80cafa446ea74b672abe32ea", func := "braid/braidlaw10.SchedSound", spec := "schedSound", unfollowed := true, recurses := true, apart := false, narrowed := true }
def SchedSoundUptoSaid : Prop := schedSoundUptoRow.holds Try.pinned (OpenSpec.upto schedSoundSpec)

/-- 'braidlaw10.SchedOnePath', WHERE WHAT IT READS IS OF BULK AT MOST 1048576: true; the input reads as it did. -/
def schedOnePathUptoRow : OpenClaim := { program := "ytdbdiebgjnofgaa", sum := "dc2b7556e74c2b465d9cfa380239fc01abb1ef2c80cafa446ea74b672abe32ea", func := "braid/braidlaw10.SchedOnePath", spec := "schedOnePath", unfollowed := true, recurses := true, apart := false, narrowed := true }
def SchedOnePathUptoSaid : Prop := schedOnePathUptoRow.holds Try.pinned (OpenSpec.upto schedOnePathSpec)

end Rows
end Go.Proofs.Ytdbdiebgjnofgaa
