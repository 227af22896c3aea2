import Derived.Test.YtnflgkobedbemaaGreatDoorIvRanges
namespace Go.Proofs.YtnflgkobedbemaaGreatDoor
open Go.RowKit
set_option maxRecDepth 100000

theorem build62 : ∀ w, (Instr.build 159 #[]).run Tryz.prog w = .ok (.agg #[.slice none 0 0]) w := fun _ => by kernel_rfl

end Go.Proofs.YtnflgkobedbemaaGreatDoor
