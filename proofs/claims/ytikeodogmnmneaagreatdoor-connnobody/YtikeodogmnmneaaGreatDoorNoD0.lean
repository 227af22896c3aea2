import Derived.Test.YtikeodogmnmneaaGreatDoorNd0
namespace Go.Proofs.YtikeodogmnmneaaGreatDoor
open Go.ChangeShapes Go.WideShapes Go.ChangeAt Go.RowKit Go.Deep
set_option maxRecDepth 100000

theorem connNobody_wt : Rows.connNobodyRow.wfByText (OpenSpec.ofChange Rows.connNobodySpec) = true := by kernel_rfl
theorem connNobody_main : Tryz.prog.mainIs = some (true, "a09fbcad5c3ec4b62c3f1facf3e31bbeb5e2d48b321efc04baabd1147da6ab8c".toList) := by kernel_rfl
theorem connNobody_looks : false = Tryz.prog.looks [] := by kernel_rfl
theorem connNobody_stand : ([4, 55].all fun u => !Tryz.prog.wantsStandIn u) = true := by kernel_rfl
end Go.Proofs.YtikeodogmnmneaaGreatDoor
