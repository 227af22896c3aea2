/-
  NARROWER THAN 'FOR EVERY INPUT', by the rows' own cells (each row's printed sentence says how): ConnFits: laid · ConnNobody: laid · ConnOrder: laid · ConnDies: laid · ConnAlike: laid · ConnSends: laid.
  DERIVED. THE GIVEN ROWS OF THIS SEAT. 6 by the template 'for every input the law returns true; each argument reads behind the call as it read before'; 0 by the template 'total and deterministic' (their statements: YtikeodogmnmneaaGreatDoorTotals.lean).
  GIVEN WITH THE SEED: the statements are not yours to turn. If you find one false, say at which input.
  Laid BY PROGRAM, IN A SANDBOX (cutbox-rows.mjs): the forced cells as the released guide's own fill.sh prints them over the translation 667190891fd5719d… (all of the seat's roots in one cut). By AI agents, Wed Nov 11 2026. No macro, syntax, notation, axiom, sorry.
-/
import Derived.Test.YtikeodogmnmneaaGreatDoorChecked
import GoSem.Claim
import GoSem.ClaimJoined
import GoSem.ClaimMapViews
import Derived.JoinedTies
import Derived.KernelRfl
namespace Go.Proofs.YtikeodogmnmneaaGreatDoor
/- THE CELL 'sum', in the pinned program and in every row, IS THE sha256 OF THE DUMP (.gsa) THAT YtikeodogmnmneaaGreatDoorProg.lean LOADS. Nothing in Lean hashes anything: it is a label: what it is worth is what the hold of that sum in a sandbox is worth. -/
noncomputable def Tryz.pinned : Pinned := { name := "ytikeodogmnmneaagreatdoor", sum := "667190891fd5719dd0034286fe53cc0985a9c75488301e2a7118b72d29e05f05", checked := Tryz.checked }
namespace Rows
def none {H : Type} : Left H := { results := [], args := [] }

/- WHAT THE LISTED PACKAGE-LEVEL VARIABLES READ AS WHEN THE CALL BEGINS. Each datum BY PROGRAM (the guide's laid-datum.mjs) off the statement by which the dump's own 'gosem.cut.vars' lays the variable. In a bare row this is a premise. The card (YtikeodogmnmneaaGreatDoorCards.lean) ties it to the program's text. -/
def laid_braid_sums_rounds {H : Type} : DataW H := .agg [.lit (.int .u32 1116352408), .lit (.int .u32 1899447441), .lit (.int .u32 3049323471), .lit (.int .u32 3921009573), .lit (.int .u32 961987163), .lit (.int .u32 1508970993), .lit (.int .u32 2453635748), .lit (.int .u32 2870763221), .lit (.int .u32 3624381080), .lit (.int .u32 310598401), .lit (.int .u32 607225278), .lit (.int .u32 1426881987), .lit (.int .u32 1925078388), .lit (.int .u32 2162078206), .lit (.int .u32 2614888103), .lit (.int .u32 3248222580), .lit (.int .u32 3835390401), .lit (.int .u32 4022224774), .lit (.int .u32 264347078), .lit (.int .u32 604807628), .lit (.int .u32 770255983), .lit (.int .u32 1249150122), .lit (.int .u32 1555081692), .lit (.int .u32 1996064986), .lit (.int .u32 2554220882), .lit (.int .u32 2821834349), .lit (.int .u32 2952996808), .lit (.int .u32 3210313671), .lit (.int .u32 3336571891), .lit (.int .u32 3584528711), .lit (.int .u32 113926993), .lit (.int .u32 338241895), .lit (.int .u32 666307205), .lit (.int .u32 773529912), .lit (.int .u32 1294757372), .lit (.int .u32 1396182291), .lit (.int .u32 1695183700), .lit (.int .u32 1986661051), .lit (.int .u32 2177026350), .lit (.int .u32 2456956037), .lit (.int .u32 2730485921), .lit (.int .u32 2820302411), .lit (.int .u32 3259730800), .lit (.int .u32 3345764771), .lit (.int .u32 3516065817), .lit (.int .u32 3600352804), .lit (.int .u32 4094571909), .lit (.int .u32 275423344), .lit (.int .u32 430227734), .lit (.int .u32 506948616), .lit (.int .u32 659060556), .lit (.int .u32 883997877), .lit (.int .u32 958139571), .lit (.int .u32 1322822218), .lit (.int .u32 1537002063), .lit (.int .u32 1747873779), .lit (.int .u32 1955562222), .lit (.int .u32 2024104815), .lit (.int .u32 2227730452), .lit (.int .u32 2361852424), .lit (.int .u32 2428436474), .lit (.int .u32 2756734187), .lit (.int .u32 3204031479), .lit (.int .u32 3329325298)]
def laid_braid_sums_crcSteps {H : Type} : DataW H := .agg [.lit (.int .u32 0), .lit (.int .u32 498536548), .lit (.int .u32 997073096), .lit (.int .u32 651767980), .lit (.int .u32 1994146192), .lit (.int .u32 1802195444), .lit (.int .u32 1303535960), .lit (.int .u32 1342533948), .lit (.int .u32 3988292384), .lit (.int .u32 4027552580), .lit (.int .u32 3604390888), .lit (.int .u32 3412177804), .lit (.int .u32 2607071920), .lit (.int .u32 2262029012), .lit (.int .u32 2685067896), .lit (.int .u32 3183342108)]
def laid_braid_wire_sizes {H : Type} : DataW H := .agg [.lit (.int .i64 0), .lit (.int .i64 24), .lit (.int .i64 22), .lit (.int .i64 14), .lit (.int .i64 7), .lit (.int .i64 22), .lit (.int .i64 10), .lit (.int .i64 15), .lit (.int .i64 18), .lit (.int .i64 26), .lit (.int .i64 7), .lit (.int .i64 7)]

/-- 'braidlaw13.ConnFits': WHATEVER THE INPUT: true; the input reads as it did. -/
def connFitsSpec : ChangeSpec := { name := "connFits", fn := fun _ => fun
  | [d] => { results := [.lit (.bool true)], args := [d] }
  | _ => none }
def connFitsRow : OpenClaim := { program := "ytikeodogmnmneaagreatdoor", sum := "667190891fd5719dd0034286fe53cc0985a9c75488301e2a7118b72d29e05f05", func := "braid/braidlaw13.ConnFits", spec := "connFits", inPlace := ["slices.overlaps[braid/api.Range]"], unfollowed := true, recurses := true, named := ["braid/sums.rounds"], apart := false, laid := [("braid/sums.rounds", laid_braid_sums_rounds)] }
def ConnFitsSaid : Prop := connFitsRow.holds Tryz.pinned (OpenSpec.ofChange connFitsSpec)

/-- ITS FALSE NEIGHBOUR: 'it returns false'. Refute it at one input. -/
def connFitsWrong : ChangeSpec := { name := "connFits", fn := fun _ => fun
  | [d] => { results := [.lit (.bool false)], args := [d] }
  | _ => none }
def ConnFitsWrongFalsely : Prop := connFitsRow.holds Tryz.pinned (OpenSpec.ofChange connFitsWrong)

/-- 'braidlaw13.ConnNobody': WHATEVER THE INPUT: true; the input reads as it did. -/
def connNobodySpec : ChangeSpec := { name := "connNobody", fn := fun _ => fun
  | [d1, d2] => { results := [.lit (.bool true)], args := [d1, d2] }
  | _ => none }
def connNobodyRow : OpenClaim := { program := "ytikeodogmnmneaagreatdoor", sum := "667190891fd5719dd0034286fe53cc0985a9c75488301e2a7118b72d29e05f05", func := "braid/braidlaw13.ConnNobody", spec := "connNobody", inPlace := ["slices.overlaps[braid/api.Range]"], unfollowed := true, recurses := true, named := ["braid/wire.sizes", "braid/sums.crcSteps", "braid/sums.rounds"], apart := false, laid := [("braid/sums.crcSteps", laid_braid_sums_crcSteps), ("braid/sums.rounds", laid_braid_sums_rounds), ("braid/wire.sizes", laid_braid_wire_sizes)] }
def ConnNobodySaid : Prop := connNobodyRow.holds Tryz.pinned (OpenSpec.ofChange connNobodySpec)

/-- ITS FALSE NEIGHBOUR: 'it returns false'. Refute it at one input. -/
def connNobodyWrong : ChangeSpec := { name := "connNobody", fn := fun _ => fun
  | [d1, d2] => { results := [.lit (.bool false)], args := [d1, d2] }
  | _ => none }
def ConnNobodyWrongFalsely : Prop := connNobodyRow.holds Tryz.pinned (OpenSpec.ofChange connNobodyWrong)

/-- 'braidlaw13.ConnOrder': WHATEVER THE INPUT: true; the input reads as it did. -/
def connOrderSpec : ChangeSpec := { name := "connOrder", fn := fun _ => fun
  | [d1, d2, d3] => { results := [.lit (.bool true)], args := [d1, d2, d3] }
  | _ => none }
def connOrderRow : OpenClaim := { program := "ytikeodogmnmneaagreatdoor", sum := "667190891fd5719dd0034286fe53cc0985a9c75488301e2a7118b72d29e05f05", func := "braid/braidlaw13.ConnOrder", spec := "connOrder", inPlace := ["slices.overlaps[braid/api.Range]"], unfollowed := true, recurses := true, named := ["braid/sums.rounds", "braid/wire.sizes", "braid/sums.crcSteps"], apart := false, laid := [("braid/sums.crcSteps", laid_braid_sums_crcSteps), ("braid/sums.rounds", laid_braid_sums_rounds), ("braid/wire.sizes", laid_braid_wire_sizes)] }
def ConnOrderSaid : Prop := connOrderRow.holds Tryz.pinned (OpenSpec.ofChange connOrderSpec)

/-- ITS FALSE NEIGHBOUR: 'it returns false'. Refute it at one input. -/
def connOrderWrong : ChangeSpec := { name := "connOrder", fn := fun _ => fun
  | [d1, d2, d3] => { results := [.lit (.bool false)], args := [d1, d2, d3] }
  | _ => none }
def ConnOrderWrongFalsely : Prop := connOrderRow.holds Tryz.pinned (OpenSpec.ofChange connOrderWrong)

/-- 'braidlaw13.ConnDies': WHATEVER THE INPUT: true; the input reads as it did. -/
def connDiesSpec : ChangeSpec := { name := "connDies", fn := fun _ => fun
  | [d1, d2] => { results := [.lit (.bool true)], args := [d1, d2] }
  | _ => none }
def connDiesRow : OpenClaim := { program := "ytikeodogmnmneaagreatdoor", sum := "667190891fd5719dd0034286fe53cc0985a9c75488301e2a7118b72d29e05f05", func := "braid/braidlaw13.ConnDies", spec := "connDies", inPlace := ["slices.overlaps[braid/api.Range]"], unfollowed := true, recurses := true, named := ["braid/sums.rounds", "braid/wire.sizes", "braid/sums.crcSteps"], apart := false, laid := [("braid/sums.crcSteps", laid_braid_sums_crcSteps), ("braid/sums.rounds", laid_braid_sums_rounds), ("braid/wire.sizes", laid_braid_wire_sizes)] }
def ConnDiesSaid : Prop := connDiesRow.holds Tryz.pinned (OpenSpec.ofChange connDiesSpec)

/-- ITS FALSE NEIGHBOUR: 'it returns false'. Refute it at one input. -/
def connDiesWrong : ChangeSpec := { name := "connDies", fn := fun _ => fun
  | [d1, d2] => { results := [.lit (.bool false)], args := [d1, d2] }
  | _ => none }
def ConnDiesWrongFalsely : Prop := connDiesRow.holds Tryz.pinned (OpenSpec.ofChange connDiesWrong)

/-- 'braidlaw13.ConnAlike': WHATEVER THE INPUT: true; the input reads as it did. -/
def connAlikeSpec : ChangeSpec := { name := "connAlike", fn := fun _ => fun
  | [d1, d2, d3, d4] => { results := [.lit (.bool true)], args := [d1, d2, d3, d4] }
  | _ => none }
def connAlikeRow : OpenClaim := { program := "ytikeodogmnmneaagreatdoor", sum := "667190891fd5719dd0034286fe53cc0985a9c75488301e2a7118b72d29e05f05", func := "braid/braidlaw13.ConnAlike", spec := "connAlike", inPlace := ["slices.overlaps[braid/api.Range]"], unfollowed := true, recurses := true, named := ["braid/sums.rounds", "braid/wire.sizes", "braid/sums.crcSteps"], apart := false, laid := [("braid/sums.crcSteps", laid_braid_sums_crcSteps), ("braid/sums.rounds", laid_braid_sums_rounds), ("braid/wire.sizes", laid_braid_wire_sizes)] }
def ConnAlikeSaid : Prop := connAlikeRow.holds Tryz.pinned (OpenSpec.ofChange connAlikeSpec)

/-- ITS FALSE NEIGHBOUR: 'it returns false'. Refute it at one input. -/
def connAlikeWrong : ChangeSpec := { name := "connAlike", fn := fun _ => fun
  | [d1, d2, d3, d4] => { results := [.lit (.bool false)], args := [d1, d2, d3, d4] }
  | _ => none }
def ConnAlikeWrongFalsely : Prop := connAlikeRow.holds Tryz.pinned (OpenSpec.ofChange connAlikeWrong)

/-- 'braidlaw13.ConnSends': WHATEVER THE INPUT: true; the input reads as it did. -/
def connSendsSpec : ChangeSpec := { name := "connSends", fn := fun _ => fun
  | [d1, d2] => { results := [.lit (.bool true)], args := [d1, d2] }
  | _ => none }
def connSendsRow : OpenClaim := { program := "ytikeodogmnmneaagreatdoor", sum := "667190891fd5719dd0034286fe53cc0985a9c75488301e2a7118b72d29e05f05", func := "braid/braidlaw13.ConnSends", spec := "connSends", inPlace := ["slices.overlaps[braid/api.Range]"], unfollowed := true, recurses := true, named := ["braid/sums.rounds", "braid/wire.sizes", "braid/sums.crcSteps"], apart := false, laid := [("braid/sums.crcSteps", laid_braid_sums_crcSteps), ("braid/sums.rounds", laid_braid_sums_rounds), ("braid/wire.sizes", laid_braid_wire_sizes)] }
def ConnSendsSaid : Prop := connSendsRow.holds Tryz.pinned (OpenSpec.ofChange connSendsSpec)

/-- ITS FALSE NEIGHBOUR: 'it returns false'. Refute it at one input. -/
def connSendsWrong : ChangeSpec := { name := "connSends", fn := fun _ => fun
  | [d1, d2] => { results := [.lit (.bool false)], args := [d1, d2] }
  | _ => none }
def ConnSendsWrongFalsely : Prop := connSendsRow.holds Tryz.pinned (OpenSpec.ofChange connSendsWrong)

/- THE SECOND FORM. 'bulk': how many values and letters a reading holds, each counted each time it is reached (what is shared counts as often as it is met; a slice's spare places count too). A statement '..UptoSaid' is the law's where the arguments, and the package variables that the reading takes, are together of bulk at most 1048576: NARROWER than '..Said'. Prove '..Said' where nothing that the law and all that it calls make is longer than what came in: it says more and counts as full. Else prove '..UptoSaid'. A law counts once. -/
mutual
def uptoBulk {H : Type} : DataW H → Nat
  | .lit (.string bytes) => bytes.length + 1
  | .lit _ => 1
  | .nil => 1
  | .ptr d => uptoBulk d + 1
  | .slice elems spare => uptoBulkAll elems + uptoBulkAll spare + 1
  | .agg parts => uptoBulkAll parts + 1
  | .iface _ d => uptoBulk d + 1
  | .map entries => uptoBulkEntries entries + 1
  | .held _ => 1
def uptoBulkAll {H : Type} : List (DataW H) → Nat
  | [] => 0
  | d :: r => uptoBulk d + uptoBulkAll r
def uptoBulkEntries {H : Type} : List (Lit × DataW H) → Nat
  | [] => 0
  | x :: r => uptoBulkEntry x + uptoBulkEntries r
def uptoBulkEntry {H : Type} : Lit × DataW H → Nat
  | (.string bytes, d) => bytes.length + uptoBulk d + 1
  | (_, d) => uptoBulk d + 1
 end
def uptoSmall : (H : Type) → List (DataW H) → Bool := fun _ ds => decide (uptoBulkAll ds ≤ 1048576)
def OpenSpec.upto (s : _root_.Go.ChangeSpec) : _root_.Go.OpenSpec := { _root_.Go.OpenSpec.ofChange s with cond := some uptoSmall }

/-- 'braidlaw13.ConnFits', WHERE WHAT IT READS IS OF BULK AT MOST 1048576: true; the input reads as it did. -/
def connFitsUptoRow : OpenClaim := { program := "ytikeodogmnmneaagreatdoor", sum := "667190891fd5719dd0034286fe53cc0985a9c75488301e2a7118b72d29e05f05", func := "braid/braidlaw13.ConnFits", spec := "connFits", inPlace := ["slices.overlaps[braid/api.Range]"], unfollowed := true, recurses := true, named := ["braid/sums.rounds"], apart := false, laid := [("braid/sums.rounds", laid_braid_sums_rounds)], narrowed := true }
def ConnFitsUptoSaid : Prop := connFitsUptoRow.holds Tryz.pinned (OpenSpec.upto connFitsSpec)

/-- 'braidlaw13.ConnNobody', WHERE WHAT IT READS IS OF BULK AT MOST 1048576: true; the input reads as it did. -/
def connNobodyUptoRow : OpenClaim := { program := "ytikeodogmnmneaagreatdoor", sum := "667190891fd5719dd0034286fe53cc0985a9c75488301e2a7118b72d29e05f05", func := "braid/braidlaw13.ConnNobody", spec := "connNobody", inPlace := ["slices.overlaps[braid/api.Range]"], unfollowed := true, recurses := true, named := ["braid/wire.sizes", "braid/sums.crcSteps", "braid/sums.rounds"], apart := false, laid := [("braid/sums.crcSteps", laid_braid_sums_crcSteps), ("braid/sums.rounds", laid_braid_sums_rounds), ("braid/wire.sizes", laid_braid_wire_sizes)], narrowed := true }
def ConnNobodyUptoSaid : Prop := connNobodyUptoRow.holds Tryz.pinned (OpenSpec.upto connNobodySpec)

/-- 'braidlaw13.ConnOrder', WHERE WHAT IT READS IS OF BULK AT MOST 1048576: true; the input reads as it did. -/
def connOrderUptoRow : OpenClaim := { program := "ytikeodogmnmneaagreatdoor", sum := "667190891fd5719dd0034286fe53cc0985a9c75488301e2a7118b72d29e05f05", func := "braid/braidlaw13.ConnOrder", spec := "connOrder", inPlace := ["slices.overlaps[braid/api.Range]"], unfollowed := true, recurses := true, named := ["braid/sums.rounds", "braid/wire.sizes", "braid/sums.crcSteps"], apart := false, laid := [("braid/sums.crcSteps", laid_braid_sums_crcSteps), ("braid/sums.rounds", laid_braid_sums_rounds), ("braid/wire.sizes", laid_braid_wire_sizes)], narrowed := true }
def ConnOrderUptoSaid : Prop := connOrderUptoRow.holds Tryz.pinned (OpenSpec.upto connOrderSpec)

/-- 'braidlaw13.ConnDies', WHERE WHAT IT READS IS OF BULK AT MOST 1048576: true; the input reads as it did. -/
def connDiesUptoRow : OpenClaim := { program := "ytikeodogmnmneaagreatdoor", sum := "667190891fd5719dd0034286fe53cc0985a9c75488301e2a7118b72d29e05f05", func := "braid/braidlaw13.ConnDies", spec := "connDies", inPlace := ["slices.overlaps[braid/api.Range]"], unfollowed := true, recurses := true, named := ["braid/sums.rounds", "braid/wire.sizes", "braid/sums.crcSteps"], apart := false, laid := [("braid/sums.crcSteps", laid_braid_sums_crcSteps), ("braid/sums.rounds", laid_braid_sums_rounds), ("braid/wire.sizes", laid_braid_wire_sizes)], narrowed := true }
def ConnDiesUptoSaid : Prop := connDiesUptoRow.holds Tryz.pinned (OpenSpec.upto connDiesSpec)

/-- 'braidlaw13.ConnAlike', WHERE WHAT IT READS IS OF BULK AT MOST 1048576: true; the input reads as it did. -/
def connAlikeUptoRow : OpenClaim := { program := "ytikeodogmnmneaagreatdoor", sum := "667190891fd5719dd0034286fe53cc0985a9c75488301e2a7118b72d29e05f05", func := "braid/braidlaw13.ConnAlike", spec := "connAlike", inPlace := ["slices.overlaps[braid/api.Range]"], unfollowed := true, recurses := true, named := ["braid/sums.rounds", "braid/wire.sizes", "braid/sums.crcSteps"], apart := false, laid := [("braid/sums.crcSteps", laid_braid_sums_crcSteps), ("braid/sums.rounds", laid_braid_sums_rounds), ("braid/wire.sizes", laid_braid_wire_sizes)], narrowed := true }
def ConnAlikeUptoSaid : Prop := connAlikeUptoRow.holds Tryz.pinned (OpenSpec.upto connAlikeSpec)

/-- 'braidlaw13.ConnSends', WHERE WHAT IT READS IS OF BULK AT MOST 1048576: true; the input reads as it did. -/
def connSendsUptoRow : OpenClaim := { program := "ytikeodogmnmneaagreatdoor", sum := "667190891fd5719dd0034286fe53cc0985a9c75488301e2a7118b72d29e05f05", func := "braid/braidlaw13.ConnSends", spec := "connSends", inPlace := ["slices.overlaps[braid/api.Range]"], unfollowed := true, recurses := true, named := ["braid/sums.rounds", "braid/wire.sizes", "braid/sums.crcSteps"], apart := false, laid := [("braid/sums.crcSteps", laid_braid_sums_crcSteps), ("braid/sums.rounds", laid_braid_sums_rounds), ("braid/wire.sizes", laid_braid_wire_sizes)], narrowed := true }
def ConnSendsUptoSaid : Prop := connSendsUptoRow.holds Tryz.pinned (OpenSpec.upto connSendsSpec)

end Rows
end Go.Proofs.YtikeodogmnmneaaGreatDoor
