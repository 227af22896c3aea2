import Derived.Test.YtjnmfedefmemnabRowA
namespace Go.Proofs.Ytjnmfedefmemnab
open Go.RowKit
set_option maxRecDepth 100000

/-- Cells that lie from an address on. -/
def CellsAt (w : World) (a : Option Addr) (xs : List Value) : Prop := ∀ k (h : k < xs.length), ∃ g o, a = some ⟨g, o, none⟩ ∧ w.cell? ⟨g, o + k, none⟩ = some xs[k]
theorem CellsAt.kept {w w' : World} {a : Option Addr} {xs : List Value} (h : CellsAt w a xs) (hb : Below w.heap.size w w') : CellsAt w' a xs := fun k hk => by
  obtain ⟨g, o, e, c⟩ := h k hk
  exact ⟨g, o, e, cell_kept hb c⟩
theorem take_snoc {α : Type} (l : List α) (k : Nat) (h : k < l.length) : l.take (k + 1) = l.take k ++ [l[k]] := List.take_succ_eq_append_getElem h
theorem owns_slice {base m : Nat} {w : World} {v : Value} {xs : List Value} (h : w.ownsRow base 35 1 v m xs) : ∃ a cap, v = .slice a m cap ∧ CellsAt w a xs ∧ m ≤ cap ∧ (m ≠ 0 → a ≠ none) := by
  obtain ⟨h1, ⟨rfl, rfl⟩ | ⟨g, cap, cur, rfl, hb, hh, hc, _, hs, ht⟩⟩ := h
  · exact ⟨none, 0, rfl, fun k hk => by rw [h1] at hk; simp at hk, Nat.le_refl _, fun h => absurd rfl h⟩
  · refine ⟨_, _, rfl, fun k hk => ⟨g, 0, rfl, ?_⟩, hc, fun _ => by simp⟩
    rw [Nat.zero_add, cell_of_row w g k cur 35 (0, 0) hh]
    have hk' : k < m := by rw [h1] at hk; omega
    have e : xs[k]? = cur.toList[k]? := by rw [← ht, Nat.mul_one, List.getElem?_take_of_lt hk']
    rw [List.getElem?_eq_getElem hk] at e
    simpa using e.symm
theorem cells_new1 (w : World) (x : Value) : CellsAt (w.alloc (.cells #[x] 35)) (some ⟨w.heap.size, 0, none⟩) [x] := fun j hj => by
  have e0 : j = 0 := by simpa using hj
  subst e0
  exact ⟨_, _, rfl, (Row.new w [x] 35).cell 0 _ rfl⟩
/-- append of slices to a row that the law made. -/
theorem below_grown {B m : Nat} {W w w' : World} {v : Value} {xs : List Value} (hb : Below B W w) (h : w.ownsRow B 35 1 v m xs) (hg : w.grownBy w' v.ownBlock) (hB : B ≤ w.heap.size) : Below B W w' := by
  refine hb.trans ⟨hg.os, hg.tape, hg.output, hg.size, fun k hk => hg.block k (by omega) (fun e => ?_)⟩
  obtain ⟨_, ⟨rfl, _⟩ | ⟨g, cap, cur, rfl, hbb, _⟩⟩ := h
  · cases e
  · simp only [Value.ownBlock, Option.some.injEq] at e
    omega
theorem idx_of (pv : Int) (m : Nat) (h : 0 < m) (h2 : m ≤ 140737488351232) : ∃ j : Nat, j < m ∧ wrap64 ((IntKind.u64.wrap pv).tmod (m : Int)) = (j : Int) := by
  have h0 : 0 ≤ IntKind.u64.wrap pv := by rw [IntKind.wrap_u64]; omega
  have e : (IntKind.u64.wrap pv).tmod (m : Int) = IntKind.u64.wrap pv % (m : Int) := Int.tmod_eq_emod_of_nonneg h0
  have h3 : 0 ≤ IntKind.u64.wrap pv % (m : Int) := Int.emod_nonneg _ (by omega)
  have h4 : IntKind.u64.wrap pv % (m : Int) < (m : Int) := Int.emod_lt_of_pos _ (by omega)
  rw [e]
  generalize IntKind.u64.wrap pv % (m : Int) = z at *
  refine ⟨z.toNat, by omega, ?_⟩
  unfold wrap64
  omega
end Go.Proofs.Ytjnmfedefmemnab
