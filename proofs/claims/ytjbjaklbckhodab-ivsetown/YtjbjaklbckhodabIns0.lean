import Derived.Test.YtjbjaklbckhodabRefOf
namespace Go.Proofs.Ytjbjaklbckhodab
open Go.RowKit
set_option maxRecDepth 100000

/-- A list that rises by where its ranges begin. -/
def Rises (c : List Rg) : Prop := c.Pairwise (fun a b => a.1 ≤ b.1)
/-- Into a rising list at the place where it belongs. -/
theorem ins_rises {c : List Rg} {r : Rg} {j : Nat} (h : Rises c) (hj : j ≤ c.length) (h1 : ∀ t ∈ c.drop j, r.1 < t.1) (h2 : 0 < j → (nth c (j - 1)).1 ≤ r.1) : Rises (c.take j ++ [r] ++ c.drop j) := by
  have hp : (c.take j ++ c.drop j).Pairwise (fun a b => a.1 ≤ b.1) := by rw [List.take_append_drop]; exact h
  have hs := List.pairwise_append.1 hp
  have hle : ∀ a ∈ c.take j, a.1 ≤ r.1 := by
    intro a ha
    obtain ⟨i, hi, hij, rfl⟩ := mem_take_get ha
    have h0 : 0 < j := by omega
    have h3 := h2 h0
    rw [nth_eq (by omega)] at h3
    by_cases e : i = j - 1
    · subst e; exact h3
    · have := (List.pairwise_iff_getElem.1 h) i (j - 1) hi (by omega) (by omega)
      omega
  refine List.pairwise_append.2 ⟨List.pairwise_append.2 ⟨hs.1, by simp, fun a ha b hb => ?_⟩, hs.2.1, fun a ha b hb => ?_⟩
  · rw [List.mem_singleton.1 hb]; exact hle a ha
  · rcases List.mem_append.1 ha with ha | ha
    · exact hs.2.2 a ha b hb
    · rw [List.mem_singleton.1 ha]; have := h1 b hb; omega
theorem ins_perm (c : List Rg) (r : Rg) (j : Nat) : (c.take j ++ [r] ++ c.drop j).Perm (c ++ [r]) := by
  have h : (c.take j ++ [r] ++ c.drop j).Perm (r :: (c.take j ++ c.drop j)) := by
    rw [List.append_assoc]
    exact List.perm_middle
  rw [List.take_append_drop] at h
  exact h.trans (List.perm_append_singleton r c).symm
/-- The row while the hole goes down: one store of a pair. -/
theorem hole_down {c : List Rg} {j : Nat} (hj : j + 1 ≤ c.length) : c.take j ++ [nth c j] ++ c.drop j = (c.take (j + 1) ++ [nth c j] ++ c.drop (j + 1)) := by
  rw [nth_eq (by omega), List.take_succ_eq_append_getElem (by omega), List.drop_eq_getElem_cons (show j < c.length by omega)]
  simp

end Go.Proofs.Ytjbjaklbckhodab
