import Derived.Test.YtbkfmknjbdonlaaRtBase
namespace Go.Proofs.Ytbkfmknjbdonlaa
open Go.RowKit
set_option maxRecDepth 100000

def CellsAt (w : World) (a : Option Addr) (xs : List Value) : Prop := ∀ k (h : k < xs.length), ∃ g o, a = some ⟨g, o, none⟩ ∧ w.cell? ⟨g, o + k, none⟩ = some xs[k]
theorem CellsAt.kept {w w' : World} {a : Option Addr} {xs : List Value} (h : CellsAt w a xs) (hb : Below w.heap.size w w') : CellsAt w' a xs := fun k hk => by
  obtain ⟨g, o, e, hc⟩ := h k hk
  exact ⟨g, o, e, rcell_kept hb hc⟩
end Go.Proofs.Ytbkfmknjbdonlaa
