import Derived.Test.YtikeodogmnmneaaGreatDoorNd2
import Derived.Test.YtikeodogmnmneaaGreatDoorNoC5
namespace Go.Proofs.YtikeodogmnmneaaGreatDoor
open Go.ChangeShapes Go.WideShapes Go.ChangeAt Go.RowKit Go.Deep
set_option maxRecDepth 100000

theorem nobody_row : Rows.ConnNobodySaid :=
  OpenClaim.holds_of_wide 4 Tryz.f4 rfl rfl rfl rfl rfl rfl rfl ⟨rfl, rfl, rfl, rfl, rfl⟩ rfl rfl rfl rfl rfl connNobody_named Tryz.func4 connNobody_closed
    connNobody_inst connNobody_wrap
    (fun os started H enc _ => nobody_lifted os started H enc)

end Go.Proofs.YtikeodogmnmneaaGreatDoor
