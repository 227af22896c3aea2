import Derived.Test.YtnflgkobedbemaaGreatDoorBf3
import Derived.Test.YtnflgkobedbemaaGreatDoorIvSets
namespace Go.Proofs.YtnflgkobedbemaaGreatDoor
open Go.RowKit Go.Maps
set_option maxRecDepth 100000

/-- The buffer at p: what it says, and the bytes of what has come. -/
structure BufAt (w : World) (p : Nat) (v : Value) (b n : Nat) (D : DM) (F : Bf) (f : Int → BitVec 8) : Prop where
  r : BufR w p v b F
  sto : Sto w b n D
  byt : ∀ x, mem F.L x → At w D x (f x)
  few : (n : Int) ≤ F.read - F.base + total F.L
/-- What a buffer has of the memory. -/
def Foot (p : Nat) (v : Value) (b : Nat) (D : DM) (k : Nat) : Prop := k = p ∨ v.ownBlock = some k ∨ SB b D k
end Go.Proofs.YtnflgkobedbemaaGreatDoor
