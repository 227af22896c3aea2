import Derived.Test.YtjbjaklbckhodabMiss
import Derived.Test.YtjbjaklbckhodabWith
import Derived.Test.YtjbjaklbckhodabSorted
namespace Go.Proofs.Ytjbjaklbckhodab
open Go.RowKit
set_option maxRecDepth 100000

theorem total_fit {M : List Rg} (F : Fit M) : 0 ≤ total M ∧ total M ≤ 18446744073709551615 := by
  have h := total_bd M F M.length (Nat.le_refl _)
  rwa [List.take_length] at h
theorem add_covers {M : List Rg} (F : Fit M) (r : Rg) (h0 : 0 ≤ r.1) (h1 : r.2 ≤ 18446744073709551615) : r.2 ≤ gapOf (addL M r) r.1 := by
  have F' := addL_fit F r h0 h1
  by_cases h : r.2 ≤ gapOf (addL M r) r.1
  · exact h
  · exact absurd ((addL_mem F r _).2 (.inr ⟨gap_ge F' r.1, by omega⟩)) (gap_not F' r.1)
theorem add_again {M : List Rg} (F : Fit M) (r : Rg) (h0 : 0 ≤ r.1) (h1 : r.2 ≤ 18446744073709551615) : addL (addL M r) r = addL M r := by
  have F' := addL_fit F r h0 h1
  refine fit_ext _ _ (addL_fit F' r h0 h1) F' (fun y => ?_)
  rw [addL_mem F', addL_mem F]
  constructor
  · rintro (h | h)
    · exact h
    · exact .inr h
  · exact .inl
theorem miss_again {M : List Rg} (F : Fit M) (r : Rg) (h0 : 0 ≤ r.1) (h1 : r.1 ≤ 18446744073709551615) (h2 : r.2 ≤ 18446744073709551615) : missL (addL M r) r = [] := by
  have F' := addL_fit F r h0 h2
  have e := missL_nil F' r h1
  rw [decide_eq_true (add_covers F r h0 h2), beq_iff_eq] at e
  exact (total_zero (fun m hm => ((missL_each F' r h1).1 m hm).2.1)).2.1 e
theorem fresh_again {M : List Rg} (F : Fit M) (r : Rg) (h0 : 0 ≤ r.1) (h1 : r.1 ≤ 18446744073709551615) (h2 : r.2 ≤ 18446744073709551615) : freshOf (addL M r) r = 0 := by
  rw [← missL_total (addL_fit F r h0 h2) r h0 h1 h2, miss_again F r h0 h1 h2]
  rfl
theorem rem_again {M : List Rg} (F : Fit M) (r : Rg) (h0 : 0 ≤ r.1) (h1 : r.2 ≤ 18446744073709551615) : remL (remL M r) r = remL M r := by
  have F' := remL_fit F r h0 h1
  refine fit_ext _ _ (remL_fit F' r h0 h1) F' (fun y => ?_)
  rw [remL_mem F', remL_mem F]
  constructor
  · exact fun h => h.1
  · exact fun h => ⟨h, h.2⟩
theorem clip_again {M : List Rg} (F : Fit M) (r : Rg) (h0 : 0 ≤ r.1) (h1 : r.2 ≤ 18446744073709551615) : total (clipL (remL M r) r) = 0 := by
  have e := remL_total (remL_fit F r h0 h1) r
  rw [rem_again F r h0 h1] at e
  omega
theorem rem_has {M : List Rg} (F : Fit M) (r : Rg) (h0 : 0 ≤ r.1) (h1 : r.2 ≤ 18446744073709551615) (y : Int) (hy : r.1 ≤ y ∧ y < r.2) : (gapOf (remL M r) y != y) = false := by
  have := mt (has_dec (remL_fit F r h0 h1) y).1 (fun hm => ((remL_mem F r y).1 hm).2 hy)
  simpa using this
theorem has_miss {M : List Rg} (F : Fit M) (r : Rg) (h1 : r.1 ≤ 18446744073709551615) (m : Rg) (hm : m ∈ missL M r) : (gapOf M m.1 != m.1) = false ∧ (gapOf M (m.2 - 1) != m.2 - 1) = false := by
  have hb := (missL_each F r h1).1 m hm
  constructor
  · have := mt (has_dec F m.1).1 ((missL_mem F r h1 m.1).1 ⟨m, hm, Int.le_refl _, hb.2.1⟩).2
    simpa using this
  · have := mt (has_dec F (m.2 - 1)).1 ((missL_mem F r h1 (m.2 - 1)).1 ⟨m, hm, by omega, by omega⟩).2
    simpa using this
theorem total_take {N : List Rg} (h : ∀ r ∈ N, r.1 ≤ r.2) : ∀ k, k ≤ N.length → 0 ≤ total (N.take k) ∧ total (N.take k) ≤ total N := by
  induction N with
  | nil => intro k _; simp [total]
  | cons a l ih =>
    intro k hk
    have h0 := h a List.mem_cons_self
    cases k with
    | zero =>
      have := (ih (fun r hr => h r (List.mem_cons_of_mem _ hr)) 0 (Nat.zero_le _))
      simp only [List.take_zero, total] at *
      omega
    | succ k =>
      have := (ih (fun r hr => h r (List.mem_cons_of_mem _ hr)) k (by simpa using hk))
      simp only [List.take_succ_cons, total] at *
      omega
theorem owns_shape {w : World} {B : Nat} {v : Value} {N : List Rg} (h : w.ownsRow B 25 2 v N.length (flat N)) :
    ∃ a cap, v = .slice a N.length cap ∧ ∀ i (hi : i < N.length), ∃ g, a = some ⟨g, 0, none⟩ ∧ w.cell? ⟨g, i * 2, none⟩ = some (.int .u64 N[i].1) ∧ w.cell? ⟨g, i * 2 + 1, none⟩ = some (.int .u64 N[i].2) := by
  obtain ⟨hl, ⟨rfl, hn⟩ | ⟨g, cap, cur, rfl, _, hg, hnc, hcm, hcs, htk⟩⟩ := h
  · exact ⟨none, 0, by rw [hn], fun i h => by omega⟩
  · refine ⟨some ⟨g, 0, none⟩, cap, rfl, fun i h => ⟨g, rfl, ?_, ?_⟩⟩
    · rw [cell_of_row w g _ _ _ _ hg, ← (flat_get N i h).1, ← htk, List.getElem?_take, if_pos (by omega), Array.getElem?_toList]
    · rw [cell_of_row w g _ _ _ _ hg, ← (flat_get N i h).2, ← htk, List.getElem?_take, if_pos (by omega), Array.getElem?_toList]

end Go.Proofs.Ytjbjaklbckhodab
