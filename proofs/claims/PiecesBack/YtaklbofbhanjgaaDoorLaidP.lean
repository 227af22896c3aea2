import Derived.Test.YtaklbofbhanjgaaDoorSha1
import Derived.Test.YtaklbofbhanjgaaDoorTie
import Derived.ProofKit
import Derived.OpenShut
import Derived.SizedLaws
import Derived.Deep.Slices
import Derived.Lib.LaidTab
import Derived.LaidMore
import Derived.Stop.Joined
import Derived.Stop.LaidErr
import Derived.SevenTiedAt
namespace Go.Proofs.YtaklbofbhanjgaaDoor
open Go.ChangeShapes Go.WideShapes Go.ChangeAt Go.RowKit Go.Deep
set_option maxRecDepth 100000
theorem own : ownKnob Tryd.prog.godebug = none := by kernel_rfl
theorem laidOut : laidOutB Tryd.prog = true := by kernel_rfl
theorem gRounds : Tryd.prog.globalNamed "braid/sums.rounds" = some 1 := by kernel_rfl
theorem tRounds : (Tryd.prog.globals[1]?).map (·.type) = some 113 := by kernel_rfl
theorem cells85 : Tryd.prog.cellsOf 85 = 1 := by kernel_rfl
theorem datumRounds : (Rows.laid_braid_sums_rounds : DataW Unit) = Lib.tabData .u32 (kT.map u) := by kernel_rfl
theorem ktab_of {W : World} {rest : List (String × DataW Unit)} (h : laidMet Tryd.prog ((("braid/sums.rounds", Rows.laid_braid_sums_rounds) : String × DataW Unit) :: rest) W) : KTab W := by
  rw [datumRounds] at h
  have t := Lib.tabIs_of_head gRounds tRounds Tryd.underlying113 Tryd.underlying85 cells85 (by kernel_rfl) h
  intro j hj
  rw [t.cell gRounds j (by simpa [kT] using hj)]
  have hk : j < kT.length := by simpa [kT] using hj
  simp [List.getElem?_map, List.getElem?_eq_getElem hk]
end Go.Proofs.YtaklbofbhanjgaaDoor
