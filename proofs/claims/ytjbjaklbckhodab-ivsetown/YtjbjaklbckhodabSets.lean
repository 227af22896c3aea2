import Derived.Test.YtjbjaklbckhodabAwake
namespace Go.Proofs.Ytjbjaklbckhodab
open Go.RowKit
set_option maxRecDepth 100000

/-- A number is there. -/
def mem (L : List Rg) (x : Int) : Prop := ∃ r ∈ L, r.1 ≤ x ∧ x < r.2
theorem mem_get {L : List Rg} {x : Int} (h : mem L x) : ∃ i, ∃ (hi : i < L.length), L[i].1 ≤ x ∧ x < L[i].2 := by
  obtain ⟨r, hr, h1, h2⟩ := h
  obtain ⟨i, hi, rfl⟩ := List.getElem_of_mem hr
  exact ⟨i, hi, h1, h2⟩
theorem mem_at {L : List Rg} {x : Int} (i : Nat) (hi : i < L.length) (h1 : L[i].1 ≤ x) (h2 : x < L[i].2) : mem L x := ⟨L[i], List.getElem_mem hi, h1, h2⟩
theorem gap_cases {L : List Rg} (F : Fit L) (x : Int) : (gapOf L x = x ∧ ¬ mem L x) ∨ (mem L x ∧ x < gapOf L x ∧ ¬ mem L (gapOf L x) ∧ ∀ z, x ≤ z → z < gapOf L x → mem L z) := by
  by_cases hm : mem L x
  · right
    obtain ⟨i, hi, h1, h2⟩ := mem_get hm
    have e := gapOf_in F i hi x h1 h2
    rw [e]
    refine ⟨hm, h2, fun hn => ?_, fun z hz1 hz2 => mem_at i hi (by omega) hz2⟩
    obtain ⟨k, hk, k1, k2⟩ := mem_get hn
    have e1 := gapOf_in F k hk _ k1 k2
    have e2 := gapOf_end F i hi
    omega
  · left
    refine ⟨?_, hm⟩
    unfold gapOf
    rw [if_neg]
    rintro ⟨h1, h2⟩
    have hs := (front_spec (endBy x) L).2 h1
    rw [nth_eq h1] at h2
    simp only [endBy, decide_eq_false_iff_not] at hs
    exact hm (mem_at _ h1 h2 (by omega))
theorem gap_ge {L : List Rg} (F : Fit L) (x : Int) : x ≤ gapOf L x := by
  rcases gap_cases F x with ⟨h, _⟩ | ⟨_, h, _⟩ <;> omega
theorem gap_not {L : List Rg} (F : Fit L) (x : Int) : ¬ mem L (gapOf L x) := by
  rcases gap_cases F x with ⟨h, h2⟩ | ⟨_, _, h, _⟩
  · rw [h]; exact h2
  · exact h
theorem gap_iff {L : List Rg} (F : Fit L) (x : Int) : gapOf L x ≠ x ↔ mem L x := by
  rcases gap_cases F x with ⟨h, h2⟩ | ⟨h, h2, _⟩
  · exact ⟨fun g => absurd h g, fun g => absurd g h2⟩
  · exact ⟨fun _ => h, fun _ => by omega⟩
theorem gap_all {L : List Rg} (F : Fit L) (x z : Int) (h1 : x ≤ z) (h2 : z < gapOf L x) : mem L z := by
  rcases gap_cases F x with ⟨h, _⟩ | ⟨_, _, _, h⟩
  · omega
  · exact h z h1 h2
theorem gap_unique {L : List Rg} (F : Fit L) (x g : Int) (h1 : x ≤ g) (h2 : ∀ z, x ≤ z → z < g → mem L z) (h3 : ¬ mem L g) : gapOf L x = g := by
  rcases Int.lt_trichotomy (gapOf L x) g with h | h | h
  · exact absurd (h2 _ (gap_ge F x) h) (gap_not F x)
  · exact h
  · exact absurd (gap_all F x g h1 h) h3
theorem has_dec {L : List Rg} (F : Fit L) (x : Int) : (gapOf L x != x) = true ↔ mem L x := by rw [bne_iff_ne]; exact gap_iff F x
theorem mem_le {L : List Rg} (F : Fit L) {x : Int} (h : mem L x) : 0 ≤ x ∧ x < 18446744073709551615 := by
  obtain ⟨i, hi, h1, h2⟩ := mem_get h
  have := F.at i hi
  omega
theorem gap_le {L : List Rg} (F : Fit L) (x : Int) (hx : x ≤ 18446744073709551615) : gapOf L x ≤ 18446744073709551615 := by
  rcases gap_cases F x with ⟨h, _⟩ | ⟨_, h2, h3, h4⟩
  · omega
  · have := mem_le F (h4 (gapOf L x - 1) (by omega) (by omega))
    omega

/-- Which stretches r meets. -/
theorem ovl_in {L : List Rg} (F : Fit L) (r : Rg) (i : Nat) (hi : i < L.length) (h1 : r.1 < L[i].2) (h2 : L[i].1 < r.2) (h3 : r.1 < r.2) : ovlA L r ≤ i ∧ i < ovlB L r := by
  unfold ovlA ovlB
  rw [if_neg (by omega)]
  have sA := front_spec (endBy r.1) L
  have sB := front_spec (beginAhead r.2) L
  refine ⟨Nat.le_of_not_lt fun h => ?_, Nat.lt_of_not_le fun h => ?_⟩
  · have := sA.1 i hi h
    simp only [endBy, decide_eq_true_eq] at this
    omega
  · have hb : front (beginAhead r.2) L < L.length := by omega
    have := sB.2 hb
    have hm := F.mono_lo _ i h hi
    simp only [beginAhead, decide_eq_false_iff_not] at this
    omega
theorem ovl_ahead {L : List Rg} (r : Rg) (i : Nat) (hi : i < L.length) (h : i < ovlA L r) : L[i].2 ≤ r.1 := by
  have := (front_spec (endBy r.1) L).1 i hi h
  simpa [endBy] using this
theorem ovl_behind {L : List Rg} (F : Fit L) (r : Rg) (hr : r.1 < r.2) (i : Nat) (hi : i < L.length) (h : ovlB L r ≤ i) : r.2 ≤ L[i].1 := by
  unfold ovlB at h
  rw [if_neg (by omega)] at h
  have hb : front (beginAhead r.2) L < L.length := by omega
  have := (front_spec (beginAhead r.2) L).2 hb
  have hm := F.mono_lo _ i h hi
  simp only [beginAhead, decide_eq_false_iff_not] at this
  omega
theorem remL_mem {L : List Rg} (F : Fit L) (r : Rg) (y : Int) : mem (remL L r) y ↔ mem L y ∧ ¬ (r.1 ≤ y ∧ y < r.2) := by
  unfold remL
  have ho := ovl_le F r
  by_cases hAB : ovlA L r = ovlB L r
  · rw [if_pos hAB]
    refine ⟨fun h => ⟨h, fun hr => ?_⟩, fun h => h.1⟩
    obtain ⟨i, hi, h1, h2⟩ := mem_get h
    have := ovl_in F r i hi (by omega) (by omega) (by omega)
    omega
  · rw [if_neg hAB]
    have hAl : ovlA L r < L.length := by omega
    have hBl : ovlB L r - 1 < L.length := by omega
    have mA := ovl_meets F r (ovlA L r) (Nat.le_refl _) (by omega) hAl
    have mB := ovl_meets F r (ovlB L r - 1) (by omega) (by omega) hBl
    constructor
    · rintro ⟨t, ht, h1, h2⟩
      simp only [List.mem_append] at ht
      rcases ht with (ht | ht) | ht
      · obtain ⟨k, hk, hki, rfl⟩ := mem_take_get ht
        have := ovl_ahead r k hk hki
        exact ⟨mem_at k hk h1 h2, by omega⟩
      · unfold restL at ht
        rw [nth_eq hAl, nth_eq hBl, List.mem_append] at ht
        rcases ht with ht | ht
        · split at ht
          · rw [List.mem_singleton] at ht; subst ht; simp only at h1 h2; exact ⟨mem_at _ hAl h1 (by omega), by omega⟩
          · simp at ht
        · split at ht
          · rw [List.mem_singleton] at ht; subst ht; simp only at h1 h2; exact ⟨mem_at _ hBl (by omega) h2, by omega⟩
          · simp at ht
      · obtain ⟨k, hk, hki, rfl⟩ := mem_drop_get ht
        have := ovl_behind F r mA.2.2 k hk hki
        exact ⟨mem_at k hk h1 h2, by omega⟩
    · rintro ⟨hm, hn⟩
      obtain ⟨i, hi, h1, h2⟩ := mem_get hm
      by_cases c1 : i < ovlA L r
      · exact ⟨L[i], by simp only [List.mem_append]; exact .inl (.inl (List.mem_take_iff_getElem.2 ⟨i, by omega, rfl⟩)), h1, h2⟩
      · by_cases c2 : ovlB L r ≤ i
        · exact ⟨L[i], by simp only [List.mem_append]; exact .inr (List.mem_drop_iff_getElem.2 ⟨i - ovlB L r, by omega, by congr 1; omega⟩), h1, h2⟩
        · by_cases c3 : y < r.1
          · have hiA : i = ovlA L r := by
              by_cases e : i = ovlA L r
              · exact e
              · have := F.lt (ovlA L r) i (by omega) hi; omega
            subst hiA
            refine ⟨(L[ovlA L r].1, r.1), ?_, h1, c3⟩
            simp only [List.mem_append]
            refine .inl (.inr ?_)
            unfold restL
            rw [nth_eq hAl, if_pos (by omega)]
            simp
          · have hiB : i = ovlB L r - 1 := by
              by_cases e : i = ovlB L r - 1
              · exact e
              · have := F.lt i (ovlB L r - 1) (by omega) hBl; omega
            refine ⟨(r.2, L[ovlB L r - 1].2), ?_, by simp only; omega, by subst hiB; exact h2⟩
            simp only [List.mem_append]
            refine .inl (.inr ?_)
            unfold restL
            rw [nth_eq hBl, if_pos (show r.2 < L[ovlB L r - 1].2 by subst hiB; omega)]
            simp

/-- Sums over stretches. -/
def sumBy (f : Rg → Int) : List Rg → Int
  | [] => 0
  | r :: l => f r + sumBy f l
theorem sumBy_append (f : Rg → Int) (A B : List Rg) : sumBy f (A ++ B) = sumBy f A + sumBy f B := by
  induction A with
  | nil => simp [sumBy]
  | cons a l ih => simp only [List.cons_append, sumBy, ih]; omega
theorem sumBy_zero (f : Rg → Int) (A : List Rg) (h : ∀ t ∈ A, f t = 0) : sumBy f A = 0 := by
  induction A with
  | nil => rfl
  | cons a l ih => simp only [sumBy, h a (List.mem_cons_self), ih (fun t ht => h t (List.mem_cons_of_mem _ ht))]; omega
theorem total_split (r : Rg) (M : List Rg) : total M = total (M.map (clip r)) + sumBy (fun t => max r.1 t.1 - t.1) M + sumBy (fun t => t.2 - min r.2 t.2) M := by
  induction M with
  | nil => rfl
  | cons a l ih => simp only [total, List.map_cons, sumBy, ih, clip]; omega
theorem remL_total {L : List Rg} (F : Fit L) (r : Rg) : total (remL L r) = total L - total (clipL L r) := by
  unfold remL
  have ho := ovl_le F r
  by_cases hAB : ovlA L r = ovlB L r
  · rw [if_pos hAB]
    have hz : clipL L r = [] := List.eq_nil_of_length_eq_zero (by rw [clipL_length F r]; omega)
    rw [hz]; simp [total]
  · rw [if_neg hAB]
    have hAl : ovlA L r < L.length := by omega
    have hBl : ovlB L r - 1 < L.length := by omega
    have mA := ovl_meets F r (ovlA L r) (Nat.le_refl _) (by omega) hAl
    have mB := ovl_meets F r (ovlB L r - 1) (by omega) (by omega) hBl
    have e0 : L = L.take (ovlA L r) ++ (L.take (ovlB L r)).drop (ovlA L r) ++ L.drop (ovlB L r) := by
      conv => lhs; rw [← List.take_append_drop (ovlB L r) L]
      congr 1
      conv => lhs; rw [← List.take_append_drop (ovlA L r) (L.take (ovlB L r))]
      rw [List.take_take, Nat.min_eq_left ho.1]
    have e1 : total L = total (L.take (ovlA L r)) + total ((L.take (ovlB L r)).drop (ovlA L r)) + total (L.drop (ovlB L r)) := by
      conv => lhs; rw [e0]
      rw [total_append, total_append]
    have e2 := total_split r ((L.take (ovlB L r)).drop (ovlA L r))
    have eH : (L.take (ovlB L r)).drop (ovlA L r) = L[ovlA L r] :: (L.take (ovlB L r)).drop (ovlA L r + 1) := by
      rw [List.drop_eq_getElem_cons (by rw [List.length_take]; omega), List.getElem_take]
    have eT : (L.take (ovlB L r)).drop (ovlA L r) = (L.take (ovlB L r - 1)).drop (ovlA L r) ++ [L[ovlB L r - 1]] := by
      conv => lhs; rw [show ovlB L r = ovlB L r - 1 + 1 by omega, List.take_succ_eq_append_getElem hBl]
      rw [List.drop_append_of_le_length (by rw [List.length_take]; omega)]
    have s1 : sumBy (fun t => max r.1 t.1 - t.1) ((L.take (ovlB L r)).drop (ovlA L r)) = max r.1 L[ovlA L r].1 - L[ovlA L r].1 := by
      rw [eH]
      simp only [sumBy]
      rw [sumBy_zero]
      · omega
      · intro t ht
        obtain ⟨k, hk, hki, rfl⟩ := mem_drop_get ht
        rw [List.length_take] at hk
        rw [List.getElem_take]
        have := F.lt (ovlA L r) k (by omega) (by omega)
        omega
    have s2 : sumBy (fun t => t.2 - min r.2 t.2) ((L.take (ovlB L r)).drop (ovlA L r)) = L[ovlB L r - 1].2 - min r.2 L[ovlB L r - 1].2 := by
      rw [eT, sumBy_append]
      rw [sumBy_zero]
      · simp only [sumBy]; omega
      · intro t ht
        obtain ⟨k, hk, hki, rfl⟩ := mem_drop_get ht
        rw [List.length_take] at hk
        rw [List.getElem_take]
        have := F.lt k (ovlB L r - 1) (by omega) hBl
        omega
    have hR : total (restL L r) = (max r.1 L[ovlA L r].1 - L[ovlA L r].1) + (L[ovlB L r - 1].2 - min r.2 L[ovlB L r - 1].2) := by
      unfold restL
      rw [nth_eq hAl, nth_eq hBl, total_append]
      split <;> split <;> simp only [total] <;> omega
    rw [total_append, total_append, hR]
    show _ = total L - total (((L.take (ovlB L r)).drop (ovlA L r)).map (clip r))
    omega

end Go.Proofs.Ytjbjaklbckhodab
