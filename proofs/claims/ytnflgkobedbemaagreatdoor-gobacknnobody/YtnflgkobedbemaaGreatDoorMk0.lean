import Derived.Test.YtnflgkobedbemaaGreatDoorState
namespace Go.Proofs.YtnflgkobedbemaaGreatDoor
open Go.RowKit Go.Maps Go.Sort
set_option maxRecDepth 100000

/-- The document's buffer with nothing in it. -/
def RefZ (w : World) (q : Nat) (base cap gaps : Int) : Prop := Row w q [.int .u64 base, .int .i64 cap, .int .i64 gaps, .int .u64 base, .slice none 0 0, .int .u64 0, .bool false] 101
theorem RefZ.kept {w w' : World} {q : Nat} {base cap gaps : Int} (h : RefZ w q base cap gaps) (hb : Below w.heap.size w w') : RefZ w' q base cap gaps := Row.kept h hb h.lt
end Go.Proofs.YtnflgkobedbemaaGreatDoor
