import Derived.Test.YtnflgkobedbemaaGreatDoorIvNew
namespace Go.Proofs.YtnflgkobedbemaaGreatDoor
open Go.RowKit
set_option maxRecDepth 100000

/-- A number is there. -/
def mem (L : List Rg) (x : Int) : Prop := ∃ r ∈ L, r.1 ≤ x ∧ x < r.2
end Go.Proofs.YtnflgkobedbemaaGreatDoor
