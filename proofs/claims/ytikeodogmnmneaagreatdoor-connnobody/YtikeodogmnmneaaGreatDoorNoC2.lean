import Derived.Test.YtikeodogmnmneaaGreatDoorNd0
namespace Go.Proofs.YtikeodogmnmneaaGreatDoor
open Go.ChangeShapes Go.WideShapes Go.ChangeAt Go.RowKit Go.Deep
set_option maxRecDepth 100000

theorem connNobody_c11 : ((Rows.connNobodyRow.recurses == Tryz.prog.recurses 4)) = true := by kernel_rfl
end Go.Proofs.YtikeodogmnmneaaGreatDoor
