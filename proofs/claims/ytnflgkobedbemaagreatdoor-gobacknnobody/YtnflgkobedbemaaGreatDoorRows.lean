/-
  NARROWER THAN 'FOR EVERY INPUT', by the rows' own cells (each row's printed sentence says how): GobacknMakes: laid · GobacknNobody: laid · GobacknStream: laid · GobacknArrives: laid · GobacknDies: laid · GobacknDeaf: laid.
  DERIVED. THE GIVEN ROWS OF THIS SEAT. 6 by the template 'for every input the law returns true; each argument reads behind the call as it read before'; 0 by the template 'total and deterministic' (their statements: YtnflgkobedbemaaGreatDoorTotals.lean).
  GIVEN WITH THE SEED: the statements are not yours to turn. If you find one false, say at which input.
  Laid BY PROGRAM, IN A SANDBOX (cutbox-rows.mjs): the forced cells as the released guide's own fill.sh prints them over the translation d55515b49a9adf39… (all of the seat's roots in one cut). By AI agents, Wed Nov 11 2026. No macro, syntax, notation, axiom, sorry.
-/
import Derived.Test.YtnflgkobedbemaaGreatDoorChecked
import GoSem.Claim
import GoSem.ClaimJoined
import GoSem.ClaimMapViews
import Derived.JoinedTies
import Derived.KernelRfl
namespace Go.Proofs.YtnflgkobedbemaaGreatDoor
/- THE CELL 'sum', in the pinned program and in every row, IS THE sha256 OF THE DUMP (.gsa) THAT YtnflgkobedbemaaGreatDoorProg.lean LOADS. Nothing in Lean hashes anything: it is a label: what it is worth is what the hold of that sum in a sandbox is worth. -/
noncomputable def Tryz.pinned : Pinned := { name := "ytnflgkobedbemaagreatdoor", sum := "d55515b49a9adf390443445e2ae0d23691082a32ab2202d6d66e8770bb83adc7", checked := Tryz.checked }
namespace Rows
def none {H : Type} : Left H := { results := [], args := [] }

/- WHAT THE LISTED PACKAGE-LEVEL VARIABLES READ AS WHEN THE CALL BEGINS. Each datum BY PROGRAM (the guide's laid-datum.mjs) off the statement by which the dump's own 'gosem.cut.vars' lays the variable. In a bare row this is a premise. The card (YtnflgkobedbemaaGreatDoorCards.lean) ties it to the program's text. -/
def laid_braid_sums_rounds {H : Type} : DataW H := .agg [.lit (.int .u32 1116352408), .lit (.int .u32 1899447441), .lit (.int .u32 3049323471), .lit (.int .u32 3921009573), .lit (.int .u32 961987163), .lit (.int .u32 1508970993), .lit (.int .u32 2453635748), .lit (.int .u32 2870763221), .lit (.int .u32 3624381080), .lit (.int .u32 310598401), .lit (.int .u32 607225278), .lit (.int .u32 1426881987), .lit (.int .u32 1925078388), .lit (.int .u32 2162078206), .lit (.int .u32 2614888103), .lit (.int .u32 3248222580), .lit (.int .u32 3835390401), .lit (.int .u32 4022224774), .lit (.int .u32 264347078), .lit (.int .u32 604807628), .lit (.int .u32 770255983), .lit (.int .u32 1249150122), .lit (.int .u32 1555081692), .lit (.int .u32 1996064986), .lit (.int .u32 2554220882), .lit (.int .u32 2821834349), .lit (.int .u32 2952996808), .lit (.int .u32 3210313671), .lit (.int .u32 3336571891), .lit (.int .u32 3584528711), .lit (.int .u32 113926993), .lit (.int .u32 338241895), .lit (.int .u32 666307205), .lit (.int .u32 773529912), .lit (.int .u32 1294757372), .lit (.int .u32 1396182291), .lit (.int .u32 1695183700), .lit (.int .u32 1986661051), .lit (.int .u32 2177026350), .lit (.int .u32 2456956037), .lit (.int .u32 2730485921), .lit (.int .u32 2820302411), .lit (.int .u32 3259730800), .lit (.int .u32 3345764771), .lit (.int .u32 3516065817), .lit (.int .u32 3600352804), .lit (.int .u32 4094571909), .lit (.int .u32 275423344), .lit (.int .u32 430227734), .lit (.int .u32 506948616), .lit (.int .u32 659060556), .lit (.int .u32 883997877), .lit (.int .u32 958139571), .lit (.int .u32 1322822218), .lit (.int .u32 1537002063), .lit (.int .u32 1747873779), .lit (.int .u32 1955562222), .lit (.int .u32 2024104815), .lit (.int .u32 2227730452), .lit (.int .u32 2361852424), .lit (.int .u32 2428436474), .lit (.int .u32 2756734187), .lit (.int .u32 3204031479), .lit (.int .u32 3329325298)]
def laid_braid_sums_crcSteps {H : Type} : DataW H := .agg [.lit (.int .u32 0), .lit (.int .u32 498536548), .lit (.int .u32 997073096), .lit (.int .u32 651767980), .lit (.int .u32 1994146192), .lit (.int .u32 1802195444), .lit (.int .u32 1303535960), .lit (.int .u32 1342533948), .lit (.int .u32 3988292384), .lit (.int .u32 4027552580), .lit (.int .u32 3604390888), .lit (.int .u32 3412177804), .lit (.int .u32 2607071920), .lit (.int .u32 2262029012), .lit (.int .u32 2685067896), .lit (.int .u32 3183342108)]
def laid_braid_wire_sizes {H : Type} : DataW H := .agg [.lit (.int .i64 0), .lit (.int .i64 24), .lit (.int .i64 22), .lit (.int .i64 14), .lit (.int .i64 7), .lit (.int .i64 22), .lit (.int .i64 10), .lit (.int .i64 15), .lit (.int .i64 18), .lit (.int .i64 26), .lit (.int .i64 7), .lit (.int .i64 7)]

/-- 'braidlaw12.GobacknMakes': WHATEVER THE INPUT: true; the input reads as it did. -/
def gobacknMakesSpec : ChangeSpec := { name := "gobacknMakes", fn := fun _ => fun
  | [d1, d2] => { results := [.lit (.bool true)], args := [d1, d2] }
  | _ => none }
def gobacknMakesRow : OpenClaim := { program := "ytnflgkobedbemaagreatdoor", sum := "d55515b49a9adf390443445e2ae0d23691082a32ab2202d6d66e8770bb83adc7", func := "braid/braidlaw12.GobacknMakes", spec := "gobacknMakes", inPlace := ["slices.overlaps[braid/api.Range]"], unfollowed := true, recurses := true, named := ["braid/sums.rounds"], apart := false, laid := [("braid/sums.rounds", laid_braid_sums_rounds)] }
def GobacknMakesSaid : Prop := gobacknMakesRow.holds Tryz.pinned (OpenSpec.ofChange gobacknMakesSpec)

/-- ITS FALSE NEIGHBOUR: 'it returns false'. Refute it at one input. -/
def gobacknMakesWrong : ChangeSpec := { name := "gobacknMakes", fn := fun _ => fun
  | [d1, d2] => { results := [.lit (.bool false)], args := [d1, d2] }
  | _ => none }
def GobacknMakesWrongFalsely : Prop := gobacknMakesRow.holds Tryz.pinned (OpenSpec.ofChange gobacknMakesWrong)

/-- 'braidlaw12.GobacknNobody': WHATEVER THE INPUT: true; the input reads as it did. -/
def gobacknNobodySpec : ChangeSpec := { name := "gobacknNobody", fn := fun _ => fun
  | [d1, d2, d3, d4] => { results := [.lit (.bool true)], args := [d1, d2, d3, d4] }
  | _ => none }
def gobacknNobodyRow : OpenClaim := { program := "ytnflgkobedbemaagreatdoor", sum := "d55515b49a9adf390443445e2ae0d23691082a32ab2202d6d66e8770bb83adc7", func := "braid/braidlaw12.GobacknNobody", spec := "gobacknNobody", inPlace := ["slices.overlaps[braid/api.Range]"], unfollowed := true, recurses := true, named := ["braid/sums.rounds", "braid/wire.sizes", "braid/sums.crcSteps"], apart := false, laid := [("braid/sums.crcSteps", laid_braid_sums_crcSteps), ("braid/sums.rounds", laid_braid_sums_rounds), ("braid/wire.sizes", laid_braid_wire_sizes)] }
def GobacknNobodySaid : Prop := gobacknNobodyRow.holds Tryz.pinned (OpenSpec.ofChange gobacknNobodySpec)

/-- ITS FALSE NEIGHBOUR: 'it returns false'. Refute it at one input. -/
def gobacknNobodyWrong : ChangeSpec := { name := "gobacknNobody", fn := fun _ => fun
  | [d1, d2, d3, d4] => { results := [.lit (.bool false)], args := [d1, d2, d3, d4] }
  | _ => none }
def GobacknNobodyWrongFalsely : Prop := gobacknNobodyRow.holds Tryz.pinned (OpenSpec.ofChange gobacknNobodyWrong)

/-- 'braidlaw12.GobacknStream': WHATEVER THE INPUT: true; the input reads as it did. -/
def gobacknStreamSpec : ChangeSpec := { name := "gobacknStream", fn := fun _ => fun
  | [d1, d2] => { results := [.lit (.bool true)], args := [d1, d2] }
  | _ => none }
def gobacknStreamRow : OpenClaim := { program := "ytnflgkobedbemaagreatdoor", sum := "d55515b49a9adf390443445e2ae0d23691082a32ab2202d6d66e8770bb83adc7", func := "braid/braidlaw12.GobacknStream", spec := "gobacknStream", inPlace := ["slices.overlaps[braid/api.Range]"], unfollowed := true, recurses := true, named := ["braid/sums.rounds", "braid/wire.sizes", "braid/sums.crcSteps"], apart := false, laid := [("braid/sums.crcSteps", laid_braid_sums_crcSteps), ("braid/sums.rounds", laid_braid_sums_rounds), ("braid/wire.sizes", laid_braid_wire_sizes)] }
def GobacknStreamSaid : Prop := gobacknStreamRow.holds Tryz.pinned (OpenSpec.ofChange gobacknStreamSpec)

/-- ITS FALSE NEIGHBOUR: 'it returns false'. Refute it at one input. -/
def gobacknStreamWrong : ChangeSpec := { name := "gobacknStream", fn := fun _ => fun
  | [d1, d2] => { results := [.lit (.bool false)], args := [d1, d2] }
  | _ => none }
def GobacknStreamWrongFalsely : Prop := gobacknStreamRow.holds Tryz.pinned (OpenSpec.ofChange gobacknStreamWrong)

/-- 'braidlaw12.GobacknArrives': WHATEVER THE INPUT: true; the input reads as it did. -/
def gobacknArrivesSpec : ChangeSpec := { name := "gobacknArrives", fn := fun _ => fun
  | [d1, d2] => { results := [.lit (.bool true)], args := [d1, d2] }
  | _ => none }
def gobacknArrivesRow : OpenClaim := { program := "ytnflgkobedbemaagreatdoor", sum := "d55515b49a9adf390443445e2ae0d23691082a32ab2202d6d66e8770bb83adc7", func := "braid/braidlaw12.GobacknArrives", spec := "gobacknArrives", inPlace := ["slices.overlaps[braid/api.Range]"], unfollowed := true, recurses := true, named := ["braid/sums.rounds", "braid/wire.sizes", "braid/sums.crcSteps"], apart := false, laid := [("braid/sums.crcSteps", laid_braid_sums_crcSteps), ("braid/sums.rounds", laid_braid_sums_rounds), ("braid/wire.sizes", laid_braid_wire_sizes)] }
def GobacknArrivesSaid : Prop := gobacknArrivesRow.holds Tryz.pinned (OpenSpec.ofChange gobacknArrivesSpec)

/-- ITS FALSE NEIGHBOUR: 'it returns false'. Refute it at one input. -/
def gobacknArrivesWrong : ChangeSpec := { name := "gobacknArrives", fn := fun _ => fun
  | [d1, d2] => { results := [.lit (.bool false)], args := [d1, d2] }
  | _ => none }
def GobacknArrivesWrongFalsely : Prop := gobacknArrivesRow.holds Tryz.pinned (OpenSpec.ofChange gobacknArrivesWrong)

/-- 'braidlaw12.GobacknDies': WHATEVER THE INPUT: true; the input reads as it did. -/
def gobacknDiesSpec : ChangeSpec := { name := "gobacknDies", fn := fun _ => fun
  | [d1, d2, d3] => { results := [.lit (.bool true)], args := [d1, d2, d3] }
  | _ => none }
def gobacknDiesRow : OpenClaim := { program := "ytnflgkobedbemaagreatdoor", sum := "d55515b49a9adf390443445e2ae0d23691082a32ab2202d6d66e8770bb83adc7", func := "braid/braidlaw12.GobacknDies", spec := "gobacknDies", inPlace := ["slices.overlaps[braid/api.Range]"], unfollowed := true, recurses := true, named := ["braid/sums.rounds", "braid/wire.sizes", "braid/sums.crcSteps"], apart := false, laid := [("braid/sums.crcSteps", laid_braid_sums_crcSteps), ("braid/sums.rounds", laid_braid_sums_rounds), ("braid/wire.sizes", laid_braid_wire_sizes)] }
def GobacknDiesSaid : Prop := gobacknDiesRow.holds Tryz.pinned (OpenSpec.ofChange gobacknDiesSpec)

/-- ITS FALSE NEIGHBOUR: 'it returns false'. Refute it at one input. -/
def gobacknDiesWrong : ChangeSpec := { name := "gobacknDies", fn := fun _ => fun
  | [d1, d2, d3] => { results := [.lit (.bool false)], args := [d1, d2, d3] }
  | _ => none }
def GobacknDiesWrongFalsely : Prop := gobacknDiesRow.holds Tryz.pinned (OpenSpec.ofChange gobacknDiesWrong)

/-- 'braidlaw12.GobacknDeaf': WHATEVER THE INPUT: true; the input reads as it did. -/
def gobacknDeafSpec : ChangeSpec := { name := "gobacknDeaf", fn := fun _ => fun
  | [d1, d2, d3, d4, d5] => { results := [.lit (.bool true)], args := [d1, d2, d3, d4, d5] }
  | _ => none }
def gobacknDeafRow : OpenClaim := { program := "ytnflgkobedbemaagreatdoor", sum := "d55515b49a9adf390443445e2ae0d23691082a32ab2202d6d66e8770bb83adc7", func := "braid/braidlaw12.GobacknDeaf", spec := "gobacknDeaf", inPlace := ["slices.overlaps[braid/api.Range]"], unfollowed := true, recurses := true, named := ["braid/sums.rounds", "braid/wire.sizes", "braid/sums.crcSteps"], apart := false, laid := [("braid/sums.crcSteps", laid_braid_sums_crcSteps), ("braid/sums.rounds", laid_braid_sums_rounds), ("braid/wire.sizes", laid_braid_wire_sizes)] }
def GobacknDeafSaid : Prop := gobacknDeafRow.holds Tryz.pinned (OpenSpec.ofChange gobacknDeafSpec)

/-- ITS FALSE NEIGHBOUR: 'it returns false'. Refute it at one input. -/
def gobacknDeafWrong : ChangeSpec := { name := "gobacknDeaf", fn := fun _ => fun
  | [d1, d2, d3, d4, d5] => { results := [.lit (.bool false)], args := [d1, d2, d3, d4, d5] }
  | _ => none }
def GobacknDeafWrongFalsely : Prop := gobacknDeafRow.holds Tryz.pinned (OpenSpec.ofChange gobacknDeafWrong)

/- THE SECOND FORM. 'bulk': how many values and letters a reading holds, each counted each time it is reached (what is shared counts as often as it is met; a slice's spare places count too). A statement '..UptoSaid' is the law's where the arguments, and the package variables that the reading takes, are together of bulk at most 1048576: NARROWER than '..Said'. Prove '..Said' where nothing that the law and all that it calls make is longer than what came in: it says more and counts as full. Else prove '..UptoSaid'. A law counts once. -/
mutual
def uptoBulk {H : Type} : DataW H → Nat
  | .lit (.string bytes) => bytes.length + 1
  | .lit _ => 1
  | .nil => 1
  | .ptr d => uptoBulk d + 1
  | .slice elems spare => uptoBulkAll elems + uptoBulkAll spare + 1
  | .agg parts => uptoBulkAll parts + 1
  | .iface _ d => uptoBulk d + 1
  | .map entries => uptoBulkEntries entries + 1
  | .held _ => 1
def uptoBulkAll {H : Type} : List (DataW H) → Nat
  | [] => 0
  | d :: r => uptoBulk d + uptoBulkAll r
def uptoBulkEntries {H : Type} : List (Lit × DataW H) → Nat
  | [] => 0
  | x :: r => uptoBulkEntry x + uptoBulkEntries r
def uptoBulkEntry {H : Type} : Lit × DataW H → Nat
  | (.string bytes, d) => bytes.length + uptoBulk d + 1
  | (_, d) => uptoBulk d + 1
 end
def uptoSmall : (H : Type) → List (DataW H) → Bool := fun _ ds => decide (uptoBulkAll ds ≤ 1048576)
def OpenSpec.upto (s : _root_.Go.ChangeSpec) : _root_.Go.OpenSpec := { _root_.Go.OpenSpec.ofChange s with cond := some uptoSmall }

/-- 'braidlaw12.GobacknMakes', WHERE WHAT IT READS IS OF BULK AT MOST 1048576: true; the input reads as it did. -/
def gobacknMakesUptoRow : OpenClaim := { program := "ytnflgkobedbemaagreatdoor", sum := "d55515b49a9adf390443445e2ae0d23691082a32ab2202d6d66e8770bb83adc7", func := "braid/braidlaw12.GobacknMakes", spec := "gobacknMakes", inPlace := ["slices.overlaps[braid/api.Range]"], unfollowed := true, recurses := true, named := ["braid/sums.rounds"], apart := false, laid := [("braid/sums.rounds", laid_braid_sums_rounds)], narrowed := true }
def GobacknMakesUptoSaid : Prop := gobacknMakesUptoRow.holds Tryz.pinned (OpenSpec.upto gobacknMakesSpec)

/-- 'braidlaw12.GobacknNobody', WHERE WHAT IT READS IS OF BULK AT MOST 1048576: true; the input reads as it did. -/
def gobacknNobodyUptoRow : OpenClaim := { program := "ytnflgkobedbemaagreatdoor", sum := "d55515b49a9adf390443445e2ae0d23691082a32ab2202d6d66e8770bb83adc7", func := "braid/braidlaw12.GobacknNobody", spec := "gobacknNobody", inPlace := ["slices.overlaps[braid/api.Range]"], unfollowed := true, recurses := true, named := ["braid/sums.rounds", "braid/wire.sizes", "braid/sums.crcSteps"], apart := false, laid := [("braid/sums.crcSteps", laid_braid_sums_crcSteps), ("braid/sums.rounds", laid_braid_sums_rounds), ("braid/wire.sizes", laid_braid_wire_sizes)], narrowed := true }
def GobacknNobodyUptoSaid : Prop := gobacknNobodyUptoRow.holds Tryz.pinned (OpenSpec.upto gobacknNobodySpec)

/-- 'braidlaw12.GobacknStream', WHERE WHAT IT READS IS OF BULK AT MOST 1048576: true; the input reads as it did. -/
def gobacknStreamUptoRow : OpenClaim := { program := "ytnflgkobedbemaagreatdoor", sum := "d55515b49a9adf390443445e2ae0d23691082a32ab2202d6d66e8770bb83adc7", func := "braid/braidlaw12.GobacknStream", spec := "gobacknStream", inPlace := ["slices.overlaps[braid/api.Range]"], unfollowed := true, recurses := true, named := ["braid/sums.rounds", "braid/wire.sizes", "braid/sums.crcSteps"], apart := false, laid := [("braid/sums.crcSteps", laid_braid_sums_crcSteps), ("braid/sums.rounds", laid_braid_sums_rounds), ("braid/wire.sizes", laid_braid_wire_sizes)], narrowed := true }
def GobacknStreamUptoSaid : Prop := gobacknStreamUptoRow.holds Tryz.pinned (OpenSpec.upto gobacknStreamSpec)

/-- 'braidlaw12.GobacknArrives', WHERE WHAT IT READS IS OF BULK AT MOST 1048576: true; the input reads as it did. -/
def gobacknArrivesUptoRow : OpenClaim := { program := "ytnflgkobedbemaagreatdoor", sum := "d55515b49a9adf390443445e2ae0d23691082a32ab2202d6d66e8770bb83adc7", func := "braid/braidlaw12.GobacknArrives", spec := "gobacknArrives", inPlace := ["slices.overlaps[braid/api.Range]"], unfollowed := true, recurses := true, named := ["braid/sums.rounds", "braid/wire.sizes", "braid/sums.crcSteps"], apart := false, laid := [("braid/sums.crcSteps", laid_braid_sums_crcSteps), ("braid/sums.rounds", laid_braid_sums_rounds), ("braid/wire.sizes", laid_braid_wire_sizes)], narrowed := true }
def GobacknArrivesUptoSaid : Prop := gobacknArrivesUptoRow.holds Tryz.pinned (OpenSpec.upto gobacknArrivesSpec)

/-- 'braidlaw12.GobacknDies', WHERE WHAT IT READS IS OF BULK AT MOST 1048576: true; the input reads as it did. -/
def gobacknDiesUptoRow : OpenClaim := { program := "ytnflgkobedbemaagreatdoor", sum := "d55515b49a9adf390443445e2ae0d23691082a32ab2202d6d66e8770bb83adc7", func := "braid/braidlaw12.GobacknDies", spec := "gobacknDies", inPlace := ["slices.overlaps[braid/api.Range]"], unfollowed := true, recurses := true, named := ["braid/sums.rounds", "braid/wire.sizes", "braid/sums.crcSteps"], apart := false, laid := [("braid/sums.crcSteps", laid_braid_sums_crcSteps), ("braid/sums.rounds", laid_braid_sums_rounds), ("braid/wire.sizes", laid_braid_wire_sizes)], narrowed := true }
def GobacknDiesUptoSaid : Prop := gobacknDiesUptoRow.holds Tryz.pinned (OpenSpec.upto gobacknDiesSpec)

/-- 'braidlaw12.GobacknDeaf', WHERE WHAT IT READS IS OF BULK AT MOST 1048576: true; the input reads as it did. -/
def gobacknDeafUptoRow : OpenClaim := { program := "ytnflgkobedbemaagreatdoor", sum := "d55515b49a9adf390443445e2ae0d23691082a32ab2202d6d66e8770bb83adc7", func := "braid/braidlaw12.GobacknDeaf", spec := "gobacknDeaf", inPlace := ["slices.overlaps[braid/api.Range]"], unfollowed := true, recurses := true, named := ["braid/sums.rounds", "braid/wire.sizes", "braid/sums.crcSteps"], apart := false, laid := [("braid/sums.crcSteps", laid_braid_sums_crcSteps), ("braid/sums.rounds", laid_braid_sums_rounds), ("braid/wire.sizes", laid_braid_wire_sizes)], narrowed := true }
def GobacknDeafUptoSaid : Prop := gobacknDeafUptoRow.holds Tryz.pinned (OpenSpec.upto gobacknDeafSpec)

end Rows
end Go.Proofs.YtnflgkobedbemaaGreatDoor
