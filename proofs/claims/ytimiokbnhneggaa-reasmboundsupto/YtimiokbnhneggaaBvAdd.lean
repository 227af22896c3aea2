import Derived.Test.YtimiokbnhneggaaIvAddW
import Derived.Test.YtimiokbnhneggaaIvFits
namespace Go.Proofs.Ytimiokbnhneggaa
open Go.RowKit
set_option maxRecDepth 100000

/-- The set at p: its list v holds these stretches. -/
structure BvAt (w : World) (p : Nat) (v : Value) (R : List Value) (L : List Rg) : Prop where
  hp : w.heap[p]? = some (.cells (v :: R).toArray 57 (0, 0))
  own : w.ownsRow 0 50 2 v L.length (flat L)
theorem BvAt.view {w : World} {p : Nat} {v : Value} {R : List Value} {L : List Rg} (S : BvAt w p v R L) (hf : (L.length + 1) * 16 ≤ 140737488355328) : ∃ a cap, v = .slice a L.length cap ∧ View w p a cap L := by
  have hc : w.cell? ⟨p, 0, none⟩ = some v := by rw [cell_of_row w p 0 _ _ _ S.hp]; simp
  obtain ⟨hl, ⟨rfl, hn⟩ | ⟨g, cap, cur, rfl, _, hg, hnc, hcm, hcs, htk⟩⟩ := S.own
  · refine ⟨none, 0, by rw [hn], ⟨by rw [hn]; exact hc, fun i h => by omega, by omega, by unfold maxLen; omega, by omega, .inl ⟨rfl, rfl⟩⟩⟩
  · refine ⟨some ⟨g, 0, none⟩, cap, rfl, ⟨hc, fun i h => ⟨g, rfl, ?_, ?_⟩, hnc, hcm, by omega, .inr ⟨g, rfl⟩⟩⟩
    · rw [cell_of_row w g _ _ _ _ hg, ← (flat_get L i h).1, ← htk, List.getElem?_take, if_pos (by omega), Array.getElem?_toList]
    · rw [cell_of_row w g _ _ _ _ hg, ← (flat_get L i h).2, ← htk, List.getElem?_take, if_pos (by omega), Array.getElem?_toList]
theorem BvAt.kept {w w' : World} {p : Nat} {v : Value} {R : List Value} {L : List Rg} (S : BvAt w p v R L) (hb : Below w.heap.size w w') : BvAt w' p v R L := by
  refine ⟨by rw [hb.block p (Array.getElem?_eq_some_iff.1 S.hp).1]; exact S.hp, S.own.1, ?_⟩
  obtain h | ⟨g, cap, cur, hv, h1, hg, h2⟩ := S.own.2
  · exact .inl h
  · exact .inr ⟨g, cap, cur, hv, h1, by rw [hb.block g (Array.getElem?_eq_some_iff.1 hg).1]; exact hg, h2⟩
theorem BvAt.apart {w : World} {p : Nat} {v : Value} {R : List Value} {L : List Rg} (S : BvAt w p v R L) : v.ownBlock ≠ some p := by
  obtain ⟨rfl, _⟩ | ⟨g, cap, cur, rfl, _, hg, _⟩ := S.own.2
  · simp [Value.ownBlock]
  · intro e
    simp only [Value.ownBlock, Option.some.injEq] at e
    rw [e, S.hp] at hg
    simp at hg
end Go.Proofs.Ytimiokbnhneggaa
