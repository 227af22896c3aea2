import Derived.Test.YtnflgkobedbemaaGreatDoorBy0
import Derived.Maps.Own
import Derived.Maps.OwnOps
import Derived.Maps.OwnSet
import Derived.Maps.Views
namespace Go.Proofs.YtnflgkobedbemaaGreatDoor
open Go.RowKit Go.Maps
set_option maxRecDepth 100000

abbrev DM := DataW Nat
abbrev kw (n : Int) : Lit := .int .u64 n
/-- A block of bytes as the map's value: where it lies. -/
def readB (v : Value) : Option (DM × List MemPlace) :=
  match v with
  | .slice none 0 0 => some (.nil, [])
  | .slice (some ⟨g, 0, none⟩) 1024 1024 => some (.held g, [])
  | _ => none
abbrev OwnS (w : World) (b n : Nat) (D : DM) : Prop := w.ownsMap Tryz.prog 23 readB b n D
/-- Which block holds the bytes of a key. -/
def blk (D : DM) (k : Int) : Option Nat := match D.atKey (kw k) .nil with | .held g => some g | _ => none
theorem blk_empty (k : Int) : blk (.map []) k = none := by unfold blk; rfl
/-- The blocks of bytes, by their keys, each in a block of its own. -/
structure Sto (w : World) (b n : Nat) (D : DM) : Prop where
  own : OwnS w b n D
  row : ∀ k g, blk D k = some g → ∃ l : List (BitVec 8), l.length = 1024 ∧ Row w g (bcells l) 5
  inj : ∀ k k' g, blk D k = some g → blk D k' = some g → k = k'
/-- The byte at an offset. -/
def At (w : World) (D : DM) (x : Int) (c : BitVec 8) : Prop := ∃ g, blk D (x / 1024) = some g ∧ w.cell? ⟨g, (x % 1024).toNat, none⟩ = some (.int .u8 (ub c))
section
variable {S T : Nat → Prop} {w w' w'' : World}
end
/-- The map's block, and its blocks of bytes. -/
def SB (b : Nat) (D : DM) (k : Nat) : Prop := k = b ∨ ∃ x, blk D x = some k
end Go.Proofs.YtnflgkobedbemaaGreatDoor
