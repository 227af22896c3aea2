import Derived.Test.YtnflgkobedbemaaGreatDoorHKnown
import Derived.Test.YtnflgkobedbemaaGreatDoorHNobodyLaw
namespace Go.Proofs.YtnflgkobedbemaaGreatDoor.Sh
open Go.RowKit
set_option maxRecDepth 100000

theorem hid {p : Prop} (h : p) : Hid p := h
section
variable {ops : Array Oper} {o : Oper} {a : Act} {w : World} {K : Act → World → Prop} {Q : Exit → Act → World → Prop}
end
end Go.Proofs.YtnflgkobedbemaaGreatDoor.Sh
