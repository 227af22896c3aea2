import Derived.Test.YtnflgkobedbemaaGreatDoorNw
namespace Go.Proofs.YtnflgkobedbemaaGreatDoor
open Go.RowKit Go.Maps Go.Sort
set_option maxRecDepth 100000

theorem i47 : (Tryz.prog.info? 132).map (·.size) = some 8 := by kernel_rfl
end Go.Proofs.YtnflgkobedbemaaGreatDoor
