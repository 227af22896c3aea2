import Derived.Test.YtnflgkobedbemaaGreatDoorNw
namespace Go.Proofs.YtnflgkobedbemaaGreatDoor
open Go.RowKit Go.Maps Go.Sort
set_option maxRecDepth 100000

/-- A buffer that New did not give. -/
def NoB (w : World) (a : Option Addr) : Prop := a = none ∨ ∃ p, a = some ⟨p, 0, none⟩ ∧ w.cell? ⟨p, 3, none⟩ = some (.int .i64 0)
theorem NoB.kept {w w' : World} {a : Option Addr} (h : NoB w a) (hb : Below w.heap.size w w') : NoB w' a := by
  rcases h with rfl | ⟨p, rfl, hc⟩
  · exact .inl rfl
  · exact .inr ⟨p, rfl, cell_kept hb hc⟩
theorem i47 : (Tryz.prog.info? 132).map (·.size) = some 8 := by kernel_rfl
end Go.Proofs.YtnflgkobedbemaaGreatDoor
