import Derived.Test.YtaklbofbhanjgaaDoorIvAdd
namespace Go.Proofs.YtaklbofbhanjgaaDoor
open Go.RowKit
set_option maxRecDepth 100000

theorem fit_pieces {A B : List Rg} {N : List Rg} (FA : Fit A) (FB : Fit B) (FN : Fit N) (h1 : ∀ a ∈ A, ∀ x ∈ N, a.2 < x.1) (h2 : ∀ b ∈ B, ∀ x ∈ N, x.2 < b.1) (h3 : ∀ a ∈ A, ∀ b ∈ B, a.2 < b.1) : Fit (A ++ N ++ B) := by
  constructor
  · intro r hr
    simp only [List.mem_append] at hr
    rcases hr with (h | h) | h
    · exact FA.1 r h
    · exact FN.1 r h
    · exact FB.1 r h
  · rw [List.pairwise_append, List.pairwise_append]
    refine ⟨⟨FA.2, FN.2, h1⟩, FB.2, ?_⟩
    intro x hx b hb
    rw [List.mem_append] at hx
    rcases hx with h | h
    · exact h3 x h b hb
    · exact h2 b hb x h
theorem Fit.take {L : List Rg} (F : Fit L) (i : Nat) : Fit (L.take i) := ⟨fun r h => F.1 r (List.mem_of_mem_take h), F.2.sublist (List.take_sublist i L)⟩
theorem Fit.drop {L : List Rg} (F : Fit L) (i : Nat) : Fit (L.drop i) := ⟨fun r h => F.1 r (List.mem_of_mem_drop h), F.2.sublist (List.drop_sublist i L)⟩
theorem mem_take_get {L : List Rg} {i : Nat} {r : Rg} (h : r ∈ L.take i) : ∃ k, ∃ (hk : k < L.length), k < i ∧ L[k] = r := by
  obtain ⟨k, hk, e⟩ := List.getElem_of_mem h
  rw [List.length_take] at hk
  exact ⟨k, by omega, by omega, by rw [← e, List.getElem_take]⟩
theorem mem_drop_get {L : List Rg} {i : Nat} {r : Rg} (h : r ∈ L.drop i) : ∃ k, ∃ (hk : k < L.length), i ≤ k ∧ L[k] = r := by
  obtain ⟨k, hk, e⟩ := List.getElem_of_mem h
  rw [List.length_drop] at hk
  exact ⟨i + k, by omega, by omega, by rw [← e, List.getElem_drop]⟩

theorem addL_fit {L : List Rg} (F : Fit L) (r : Rg) (h0 : 0 ≤ r.1) (h1 : r.2 ≤ 18446744073709551615) : Fit (addL L r) := by
  unfold addL
  by_cases hr : r.2 ≤ r.1
  · rw [if_pos hr]; exact F
  rw [if_neg hr]
  have htl := tch_le F r (by omega)
  have sA := front_spec (endAhead r.1) L
  have sB := front_spec (beginBy r.2) L
  have hlo : ∀ k (hk : k < L.length), k < tchA L r → L[k].2 < r.1 := fun k hk h => by have := sA.1 k hk h; simpa [endAhead] using this
  have hhi : ∀ k (hk : k < L.length), tchB L r ≤ k → r.2 < L[k].1 := fun k hk h => by
    have hk' : tchB L r < L.length := by omega
    have := sB.2 hk'
    have hm := F.mono_lo _ k h hk
    simp only [beginBy, decide_eq_false_iff_not] at this
    unfold tchB at hm
    omega
  have hH : (hull L r).1 ≤ r.1 ∧ r.2 ≤ (hull L r).2 ∧ 0 ≤ (hull L r).1 ∧ (hull L r).2 ≤ 18446744073709551615 ∧ (∀ k (hk : k < L.length), k < tchA L r → L[k].2 < (hull L r).1) ∧ (∀ k (hk : k < L.length), tchB L r ≤ k → (hull L r).2 < L[k].1) := by
    unfold hull
    by_cases hAB : tchA L r < tchB L r
    · rw [if_pos hAB]
      have hAl : tchA L r < L.length := by omega
      have hBl : tchB L r - 1 < L.length := by omega
      rw [nth_eq hAl, nth_eq hBl]
      have fA := F.at _ hAl
      have fB := F.at _ hBl
      refine ⟨by simp only; omega, by simp only; omega, by simp only; omega, by simp only; omega, fun k hk h => ?_, fun k hk h => ?_⟩
      · have := hlo k hk h
        have := F.lt k _ h hAl
        simp only
        omega
      · have := hhi k hk h
        have := F.lt (tchB L r - 1) k (by omega) hk
        simp only
        omega
    · rw [if_neg hAB]
      exact ⟨Int.le_refl _, Int.le_refl _, h0, h1, hlo, hhi⟩
  refine fit_pieces (F.take _) (F.drop _) ?_ ?_ ?_ ?_
  · refine ⟨fun x hx => ?_, List.pairwise_singleton _ _⟩
    rw [List.mem_singleton] at hx
    subst hx
    omega
  · intro x hx y hy
    rw [List.mem_singleton] at hy
    subst hy
    obtain ⟨k, hk, hki, rfl⟩ := mem_take_get hx
    exact hH.2.2.2.2.1 k hk hki
  · intro x hx y hy
    rw [List.mem_singleton] at hy
    subst hy
    obtain ⟨k, hk, hki, rfl⟩ := mem_drop_get hx
    exact hH.2.2.2.2.2 k hk hki
  · intro x hx y hy
    obtain ⟨k, hk, hki, rfl⟩ := mem_take_get hx
    obtain ⟨j, hj, hji, rfl⟩ := mem_drop_get hy
    exact F.lt k j (by omega) hj
theorem addL_length {L : List Rg} (F : Fit L) (r : Rg) : (addL L r).length ≤ L.length + 1 := by
  unfold addL
  by_cases hr : r.2 ≤ r.1
  · rw [if_pos hr]; omega
  · rw [if_neg hr]
    have htl := tch_le F r (by omega)
    simp only [List.length_append, List.length_take, List.length_drop, List.length_cons, List.length_nil]
    omega

/-- What is left of the stretches that r meets. -/
def restL (L : List Rg) (r : Rg) : List Rg :=
  (if (nth L (ovlA L r)).1 < r.1 then [((nth L (ovlA L r)).1, r.1)] else []) ++ (if r.2 < (nth L (ovlB L r - 1)).2 then [(r.2, (nth L (ovlB L r - 1)).2)] else [])
def remL (L : List Rg) (r : Rg) : List Rg := if ovlA L r = ovlB L r then L else L.take (ovlA L r) ++ restL L r ++ L.drop (ovlB L r)
theorem restL_length (L : List Rg) (r : Rg) : (restL L r).length ≤ 2 := by
  unfold restL
  split <;> split <;> simp
theorem remL_length {L : List Rg} (F : Fit L) (r : Rg) : (remL L r).length ≤ L.length + 1 := by
  unfold remL
  have hl := restL_length L r
  have ho := ovl_le F r
  split
  · omega
  · simp only [List.length_append, List.length_take, List.length_drop]
    omega
theorem remL_fit {L : List Rg} (F : Fit L) (r : Rg) (h0 : 0 ≤ r.1) (h1 : r.2 ≤ 18446744073709551615) : Fit (remL L r) := by
  unfold remL
  have ho := ovl_le F r
  by_cases hAB : ovlA L r = ovlB L r
  · rw [if_pos hAB]; exact F
  rw [if_neg hAB]
  have hAl : ovlA L r < L.length := by omega
  have hBl : ovlB L r - 1 < L.length := by omega
  have mA := ovl_meets F r (ovlA L r) (Nat.le_refl _) (by omega) hAl
  have mB := ovl_meets F r (ovlB L r - 1) (by omega) (by omega) hBl
  have fA := F.at _ hAl
  have fB := F.at _ hBl
  have hR : ∀ x ∈ restL L r, L[ovlA L r].1 ≤ x.1 ∧ x.2 ≤ L[ovlB L r - 1].2 ∧ 0 ≤ x.1 ∧ x.1 < x.2 ∧ x.2 ≤ 18446744073709551615 := by
    intro x hx
    unfold restL at hx
    rw [nth_eq hAl, nth_eq hBl, List.mem_append] at hx
    have hle := F.mono_lo (ovlA L r) (ovlB L r - 1) (by omega) hBl
    have hle2 := F.mono_hi (ovlA L r) (ovlB L r - 1) (by omega) hBl
    rcases hx with hx | hx
    · split at hx
      · rw [List.mem_singleton] at hx; subst hx; simp only; omega
      · simp at hx
    · split at hx
      · rw [List.mem_singleton] at hx; subst hx; simp only; omega
      · simp at hx
  refine fit_pieces (F.take _) (F.drop _) ⟨fun x hx => (hR x hx).2.2, ?_⟩ ?_ ?_ ?_
  · unfold restL
    rw [nth_eq hAl, nth_eq hBl]
    split <;> split <;> simp <;> omega
  · intro x hx y hy
    obtain ⟨k, hk, hki, rfl⟩ := mem_take_get hx
    have := F.lt k _ hki hAl
    have := hR y hy
    omega
  · intro x hx y hy
    obtain ⟨k, hk, hki, rfl⟩ := mem_drop_get hx
    have := F.lt (ovlB L r - 1) k (by omega) hk
    have := hR y hy
    omega
  · intro x hx y hy
    obtain ⟨k, hk, hki, rfl⟩ := mem_take_get hx
    obtain ⟨j, hj, hji, rfl⟩ := mem_drop_get hy
    exact F.lt k j (by omega) hj

end Go.Proofs.YtaklbofbhanjgaaDoor
