import Derived.Test.YtikeodogmnmneaaGreatDoorNd0
namespace Go.Proofs.YtikeodogmnmneaaGreatDoor
open Go.ChangeShapes Go.WideShapes Go.ChangeAt Go.RowKit Go.Deep
set_option maxRecDepth 100000

theorem nobody_met (os : Os) (args : Array Value) : laidMetH Tryz.prog Rows.connNobodyRow.laid ((World.doorLaid Tryz.prog 400 os).forCall (fun _ _ => 0) ⟨#[], args, []⟩).memory :=
  laidMetH_of_parts3 (fuel := 8) (laidMet_of_run' 8 (by kernel_rfl) (by kernel_rfl)) (by kernel_rfl) (by kernel_rfl)

end Go.Proofs.YtikeodogmnmneaaGreatDoor
