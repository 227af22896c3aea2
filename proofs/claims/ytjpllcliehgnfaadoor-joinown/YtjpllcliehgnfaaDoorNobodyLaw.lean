import Derived.Test.YtjpllcliehgnfaaDoorNobody
namespace Go.Proofs.YtjpllcliehgnfaaDoor
open Go.RowKit
set_option maxRecDepth 100000

theorem BytesAt.off {w : World} {a : Option Addr} {bs : List (BitVec 8)} (h : BytesAt w a bs) {p : Nat} (hp : w.heap.size ≤ p) : BytesOff p w a bs := fun k hk => by
  obtain ⟨g, o, e, c⟩ := h k hk
  have := World.block_lt_of_cell? w _ c
  exact ⟨g, o, e, by simp only at this; omega, c⟩
theorem BytesOff.kept {p : Nat} {w w' : World} {a : Option Addr} {bs : List (BitVec 8)} (h : BytesOff p w a bs) (hb : Below w.heap.size w w') : BytesOff p w' a bs := fun k hk => by
  obtain ⟨g, o, e, hg, c⟩ := h k hk
  exact ⟨g, o, e, hg, cell_kept hb c⟩
theorem NoHash.only {w w' : World} {v : Value} {p : Nat} (h : NoHash w v) (ho : Only p w w') (hp : ∀ q, v = .pointer (some ⟨q, 0, none⟩) → q ≠ p) : NoHash w' v := by
  rcases h with h | ⟨q, h, R⟩
  · exact .inl h
  · exact .inr ⟨q, h, ho.row R (hp q h)⟩
theorem built39z : Tryd.prog.built 94 [] = some hz.toArray := by kernel_rfl
theorem wpBuild39z {ops : Array Oper} {rest : List Oper} {o : Oper} {a : Act} {w : World} {Q : Exit → Act → World → Prop} (hgd : o.guard = none) (ho : o.op = .build 94 #[])
    (k : wpList Tryd.prog ops Q rest (a.put o.dst (.agg hz.toArray)) w) : wpList Tryd.prog ops Q (o :: rest) a w := by
  refine wpList_build hgd 94 _ ho (by simp [built39z]) ?_
  simpa [built39z] using k

theorem eq44 (w : World) : (Op.equalIn 10000 73 (.agg (bcells z32).toArray) (.agg #[.int .u8 0, .int .u8 0, .int .u8 0, .int .u8 0, .int .u8 0, .int .u8 0, .int .u8 0, .int .u8 0, .int .u8 0, .int .u8 0, .int .u8 0, .int .u8 0, .int .u8 0, .int .u8 0, .int .u8 0, .int .u8 0, .int .u8 0, .int .u8 0, .int .u8 0, .int .u8 0, .int .u8 0, .int .u8 0, .int .u8 0, .int .u8 0, .int .u8 0, .int .u8 0, .int .u8 0, .int .u8 0, .int .u8 0, .int .u8 0, .int .u8 0, .int .u8 0])).run Tryd.prog w = .ok true w := by kernel_rfl
end Go.Proofs.YtjpllcliehgnfaaDoor
