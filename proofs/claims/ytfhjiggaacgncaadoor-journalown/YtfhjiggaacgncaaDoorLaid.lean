import Derived.Test.YtfhjiggaacgncaaDoorCrc
import Derived.Test.YtfhjiggaacgncaaDoorTie
import Derived.ProofKit
import Derived.OpenShut
import Derived.SizedLaws
import Derived.Deep.Slices
import Derived.Lib.LaidTab
import Derived.LaidMore
import Derived.Stop.Joined
import Derived.Stop.LaidErr
import Derived.SevenTiedAt
namespace Go.Proofs.YtfhjiggaacgncaaDoor
open Go.ChangeShapes Go.WideShapes Go.ChangeAt Go.RowKit Go.Deep
set_option maxRecDepth 100000

theorem own : ownKnob Tryd.prog.godebug = none := by kernel_rfl
theorem laidOut : laidOutB Tryd.prog = true := by kernel_rfl
theorem gCrc : Tryd.prog.globalNamed "braid/sums.crcSteps" = some 0 := by kernel_rfl
theorem tCrc : (Tryd.prog.globals[0]?).map (·.type) = some 128 := by kernel_rfl
theorem cells113 : Tryd.prog.cellsOf 113 = 1 := by kernel_rfl
theorem datumCrc : (Rows.laid_braid_sums_crcSteps : DataW Unit) = Lib.tabData .u32 (crcT.map u) := by kernel_rfl
theorem crctab_of {W : World} {rest : List (String × DataW Unit)} (h : laidMet Tryd.prog ((("braid/sums.crcSteps", Rows.laid_braid_sums_crcSteps) : String × DataW Unit) :: rest) W) : CrcTab W := by
  rw [datumCrc] at h
  have t := Lib.tabIs_of_head gCrc tCrc Tryd.underlying128 Tryd.underlying113 cells113 (by kernel_rfl) h
  intro j hj
  rw [t.cell gCrc j (by simpa using hj)]
  simp [List.getElem?_map, List.getElem?_eq_getElem hj]
end Go.Proofs.YtfhjiggaacgncaaDoor
