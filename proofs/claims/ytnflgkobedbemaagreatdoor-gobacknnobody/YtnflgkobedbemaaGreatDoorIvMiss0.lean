import Derived.Test.YtnflgkobedbemaaGreatDoorIvSets
namespace Go.Proofs.YtnflgkobedbemaaGreatDoor
open Go.RowKit
set_option maxRecDepth 100000

/-- What was gathered behind k of the stretches that r meets, and from where on it is open. -/
def missAt (L : List Rg) (r : Rg) : Nat → List Rg × Int
  | 0 => ([], r.1)
  | k + 1 => (if (missAt L r k).2 < (nth L (ovlA L r + k)).1 then (missAt L r k).1 ++ [((missAt L r k).2, (nth L (ovlA L r + k)).1)] else (missAt L r k).1, (nth L (ovlA L r + k)).2)
end Go.Proofs.YtnflgkobedbemaaGreatDoor
