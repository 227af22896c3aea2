import Derived.Test.YtnflgkobedbemaaGreatDoorIvMiss0
import Derived.Test.YtnflgkobedbemaaGreatDoorIvAddW
import Derived.Test.YtnflgkobedbemaaGreatDoorIvFits
namespace Go.Proofs.YtnflgkobedbemaaGreatDoor
open Go.RowKit
set_option maxRecDepth 100000

/-- What the round keeps: the list so far, and the range's box. -/
structure Hunt (w wr : World) (L : List Rg) (r : Rg) (k : Nat) (v : Value) : Prop where
  row : wr.ownsRow (w.heap.size + 1) 144 2 v (missAt L r k).1.length (flat (missAt L r k).1)
  box : wr.heap[w.heap.size]? = some (.cells #[.int .u64 (missAt L r k).2, .int .u64 r.2] 144 (0, 0))
  bel : Below w.heap.size w wr
theorem Hunt.lt {w wr : World} {L : List Rg} {r : Rg} {k : Nat} {v : Value} (H : Hunt w wr L r k v) : w.heap.size < wr.heap.size := (Array.getElem?_eq_some_iff.1 H.box).1
theorem Hunt.apart {w wr : World} {L : List Rg} {r : Rg} {k : Nat} {v : Value} (H : Hunt w wr L r k v) : some w.heap.size ≠ v.ownBlock := fun e => by
  have := (H.row.lt _ e.symm).1; omega
theorem Hunt.alloc {w wr : World} {L : List Rg} {r : Rg} {k : Nat} {v : Value} (H : Hunt w wr L r k v) (o : Obj) : Hunt w (wr.alloc o) L r k v :=
  ⟨H.row.alloc o, (heap_alloc_old wr o H.lt).trans H.box, H.bel.alloc H.bel.size o⟩
theorem Hunt.cells {w wr : World} {L : List Rg} {r : Rg} {k : Nat} {v : Value} (H : Hunt w wr L r k v) : wr.cell? ⟨w.heap.size, 0, none⟩ = some (.int .u64 (missAt L r k).2) ∧ wr.cell? ⟨w.heap.size, 1, none⟩ = some (.int .u64 r.2) ∧ wr.frozen? ⟨w.heap.size, 0, none⟩ = false :=
  ⟨by rw [cell_of_row wr _ 0 _ _ _ H.box]; rfl, by rw [cell_of_row wr _ 1 _ _ _ H.box]; rfl, frozen_of_row _ _ _ _ _ H.box⟩
end Go.Proofs.YtnflgkobedbemaaGreatDoor
