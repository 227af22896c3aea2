import Derived.Test.YtnflgkobedbemaaGreatDoorRtBase
import Derived.Test.YtnflgkobedbemaaGreatDoorIvMem
import Derived.Laws.IdiomStrings
import Derived.Laws.Strings
namespace Go.Proofs.YtnflgkobedbemaaGreatDoor
open Go.RowKit
set_option maxRecDepth 100000

/-- A byte as the number that a cell holds. -/
def ub (x : BitVec 8) : Int := (x.toNat : Int)
def bv (x : BitVec 8) : Value := .int .u8 (ub x)
def bcells (l : List (BitVec 8)) : List Value := l.map bv
end Go.Proofs.YtnflgkobedbemaaGreatDoor
