import Derived.Test.YtimiokbnhneggaaIvNew
namespace Go.Proofs.Ytimiokbnhneggaa
open Go.RowKit
set_option maxRecDepth 100000

theorem gapOf_in {L : List Rg} (F : Fit L) (i : Nat) (hi : i < L.length) (x : Int) (h1 : L[i].1 ≤ x) (h2 : x < L[i].2) : gapOf L x = L[i].2 := by
  have e : front (endBy x) L = i := front_eq _ L i (by omega) (fun t h ht => by have := F.lt t i ht hi; simp only [endBy, decide_eq_true_eq]; omega) (fun h => by simp only [endBy, decide_eq_false_iff_not]; omega)
  unfold gapOf
  rw [e, nth_eq hi, if_pos ⟨hi, h1⟩]
theorem gapOf_end {L : List Rg} (F : Fit L) (i : Nat) (hi : i < L.length) : gapOf L L[i].2 = L[i].2 := by
  have e : front (endBy L[i].2) L = i + 1 := front_eq _ L (i + 1) (by omega) (fun t h ht => by have := F.mono_hi t i (by omega) hi; simp only [endBy, decide_eq_true_eq]; omega) (fun h => by have := F.lt i (i + 1) (by omega) h; have := F.at (i + 1) h; simp only [endBy, decide_eq_false_iff_not]; omega)
  unfold gapOf
  rw [e, if_neg]
  rintro ⟨h, h'⟩
  rw [nth_eq h] at h'
  have := F.lt i (i + 1) (by omega) h
  omega

theorem two_all (L' : List Rg) (h : L'.Perm [(3, 5), (7, 9)]) : addAll L' = [(3, 5), (7, 9)] := by
  have hl : L' = [(3, 5), (7, 9)] ∨ L' = [(7, 9), (3, 5)] := by
    match L', h with
    | [], h => exact absurd h.length_eq (by simp)
    | [a], h => exact absurd h.length_eq (by simp)
    | [a, b], h =>
      have ha : a = (3, 5) ∨ a = (7, 9) := by have := h.mem_iff.1 (List.mem_cons_self (a := a) (l := [b])); simpa using this
      have hb : b = (3, 5) ∨ b = (7, 9) := by have := h.mem_iff.1 (List.mem_cons_of_mem a (List.mem_cons_self (a := b) (l := []))); simpa using this
      have h3 : (3, 5) ∈ [a, b] := h.mem_iff.2 (by simp)
      have h7 : (7, 9) ∈ [a, b] := h.mem_iff.2 (by simp)
      rcases ha with rfl | rfl <;> rcases hb with rfl | rfl
      · simp at h7
      · exact .inl rfl
      · exact .inr rfl
      · simp at h3
    | a :: b :: c :: l, h => exact absurd h.length_eq (by simp)
  rcases hl with rfl | rfl <;> decide

theorem two_fit : Fit [(3, 5), (7, 9)] := ⟨by intro r hr; simp at hr; rcases hr with rfl | rfl <;> omega, by simp⟩

end Go.Proofs.Ytimiokbnhneggaa
