import Derived.Test.YtnflgkobedbemaaGreatDoorHSha1
import Derived.Test.YtnflgkobedbemaaGreatDoorTie
import Derived.Test.YtnflgkobedbemaaGreatDoorCards
import Derived.ProofKit
import Derived.OpenShut
import Derived.SizedLaws
import Derived.Deep.Slices
import Derived.Lib.LaidTab
import Derived.LaidMore
import Derived.Stop.Joined
import Derived.Stop.LaidErr
import Derived.SevenTiedAt
namespace Go.Proofs.YtnflgkobedbemaaGreatDoor
open Go.ChangeShapes Go.WideShapes Go.ChangeAt Go.RowKit Go.Deep
set_option maxRecDepth 100000

theorem own : ownKnob Tryz.prog.godebug = none := by kernel_rfl
theorem laidOut : laidOutB Tryz.prog = true := by kernel_rfl
theorem gRounds : Tryz.prog.globalNamed "braid/sums.rounds" = some 2 := by kernel_rfl
theorem tRounds : (Tryz.prog.globals[2]?).map (·.type) = some 255 := by kernel_rfl
theorem cells81 : Tryz.prog.cellsOf 81 = 1 := by kernel_rfl
theorem datumRounds : (Rows.laid_braid_sums_rounds : DataW Unit) = Lib.tabData .u32 (Sh.kT.map Sh.u) := by kernel_rfl
theorem ktab_of {W : World} {rest : List (String × DataW Unit)} (h : laidMet Tryz.prog ((("braid/sums.rounds", Rows.laid_braid_sums_rounds) : String × DataW Unit) :: rest) W) : Sh.KTab W := by
  rw [datumRounds] at h
  have t := Lib.tabIs_of_head gRounds tRounds Tryz.underlying255 Tryz.underlying81 cells81 (by kernel_rfl) h
  intro j hj
  rw [t.cell gRounds j (by simpa [Sh.kT] using hj)]
  have hk : j < Sh.kT.length := by simpa [Sh.kT] using hj
  simp [List.getElem?_map, List.getElem?_eq_getElem hk]
end Go.Proofs.YtnflgkobedbemaaGreatDoor
