import Derived.Test.YtikeodogmnmneaaGreatDoorNd0
namespace Go.Proofs.YtikeodogmnmneaaGreatDoor
open Go.ChangeShapes Go.WideShapes Go.ChangeAt Go.RowKit Go.Deep
set_option maxRecDepth 100000

theorem connNobody_c9 : ((Rows.connNobodyRow.inPlace == Tryz.prog.inPlace 4)) = true := by kernel_rfl
end Go.Proofs.YtikeodogmnmneaaGreatDoor
