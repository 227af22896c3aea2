import Derived.Test.YtjbjaklbckhodabSets
namespace Go.Proofs.Ytjbjaklbckhodab
open Go.RowKit
set_option maxRecDepth 100000

theorem tch_at {L : List Rg} (F : Fit L) (r : Rg) (i : Nat) (hi : i < L.length) (hA : tchA L r ≤ i) (hB : i < tchB L r) : r.1 ≤ L[i].2 ∧ L[i].1 ≤ r.2 := by
  unfold tchA at hA
  unfold tchB at hB
  have h1 := (front_spec (endAhead r.1) L).2 (by omega)
  have h2 := (front_spec (beginBy r.2) L).1 i hi hB
  have h3 := F.mono_hi _ i hA hi
  simp only [endAhead, beginBy, decide_eq_true_eq, decide_eq_false_iff_not] at h1 h2
  omega
theorem addL_mem {L : List Rg} (F : Fit L) (r : Rg) (y : Int) : mem (addL L r) y ↔ mem L y ∨ (r.1 ≤ y ∧ y < r.2) := by
  unfold addL
  by_cases hr : r.2 ≤ r.1
  · rw [if_pos hr]
    exact ⟨fun h => .inl h, fun h => by rcases h with h | h; exact h; omega⟩
  rw [if_neg hr]
  have ht := tch_le F r (by omega)
  have hin : ∀ x, x ∈ L.take (tchA L r) ++ [hull L r] ++ L.drop (tchB L r) ↔ x ∈ L.take (tchA L r) ∨ x = hull L r ∨ x ∈ L.drop (tchB L r) := by
    intro x; simp
  constructor
  · rintro ⟨t, htm, h1, h2⟩
    rw [hin] at htm
    rcases htm with htm | rfl | htm
    · obtain ⟨k, hk, _, rfl⟩ := mem_take_get htm
      exact .inl (mem_at k hk h1 h2)
    · unfold hull at h1 h2
      by_cases hAB : tchA L r < tchB L r
      · rw [if_pos hAB] at h1 h2
        have hAl : tchA L r < L.length := by omega
        have hBl : tchB L r - 1 < L.length := by omega
        rw [nth_eq hAl] at h1
        rw [nth_eq hBl] at h2
        simp only at h1 h2
        have fA := tch_at F r _ hAl (Nat.le_refl _) hAB
        have fB := tch_at F r _ hBl (by omega) (by omega)
        by_cases c1 : y < r.1
        · exact .inl (mem_at _ hAl (by omega) (by omega))
        · by_cases c2 : y < r.2
          · exact .inr ⟨by omega, c2⟩
          · exact .inl (mem_at _ hBl (by omega) (by omega))
      · rw [if_neg hAB] at h1 h2
        exact .inr ⟨h1, h2⟩
    · obtain ⟨k, hk, _, rfl⟩ := mem_drop_get htm
      exact .inl (mem_at k hk h1 h2)
  · have hsup : r.1 ≤ y ∧ y < r.2 → (hull L r).1 ≤ y ∧ y < (hull L r).2 := by
      intro h
      unfold hull
      split
      · simp only; omega
      · exact h
    rintro (hm | hm)
    · obtain ⟨i, hi, h1, h2⟩ := mem_get hm
      by_cases c1 : i < tchA L r
      · exact ⟨L[i], (hin _).2 (.inl (List.mem_take_iff_getElem.2 ⟨i, by omega, rfl⟩)), h1, h2⟩
      · by_cases c2 : tchB L r ≤ i
        · exact ⟨L[i], (hin _).2 (.inr (.inr (List.mem_drop_iff_getElem.2 ⟨i - tchB L r, by omega, by congr 1; omega⟩))), h1, h2⟩
        · refine ⟨hull L r, (hin _).2 (.inr (.inl rfl)), ?_⟩
          have hAl : tchA L r < L.length := by omega
          have hBl : tchB L r - 1 < L.length := by omega
          unfold hull
          rw [if_pos (by omega), nth_eq hAl, nth_eq hBl]
          have := F.mono_lo (tchA L r) i (by omega) hi
          have := F.mono_hi i (tchB L r - 1) (by omega) hBl
          simp only
          omega
    · exact ⟨hull L r, (hin _).2 (.inr (.inl rfl)), hsup hm⟩
theorem addAll_mem (L : List Rg) (hw : ∀ r ∈ L, 0 ≤ r.1 ∧ r.2 ≤ 18446744073709551615) (y : Int) : ∀ k, k ≤ L.length → (mem (addAll (L.take k)) y ↔ mem (L.take k) y) := by
  intro k
  induction k with
  | zero => intro _; simp [addAll, mem]
  | succ k ih =>
    intro hk
    rw [addAll_snoc L k (by omega), addL_mem (addAll_fit L hw k (by omega)).1, ih (by omega), List.take_succ_eq_append_getElem (by omega)]
    unfold mem
    constructor
    · rintro (⟨r, hr, h⟩ | h)
      · exact ⟨r, List.mem_append_left _ hr, h⟩
      · exact ⟨L[k], List.mem_append_right _ (List.mem_singleton.2 rfl), h⟩
    · rintro ⟨r, hr, h⟩
      rw [List.mem_append, List.mem_singleton] at hr
      rcases hr with hr | rfl
      · exact .inl ⟨r, hr, h⟩
      · exact .inr h

theorem fit_tail {a : Rg} {A : List Rg} (F : Fit (a :: A)) : Fit A := ⟨fun r h => F.1 r (List.mem_cons_of_mem _ h), (List.pairwise_cons.1 F.2).2⟩
theorem fit_head {a : Rg} {A : List Rg} (F : Fit (a :: A)) : a.1 < a.2 ∧ ∀ r ∈ A, a.2 < r.1 := ⟨(F.1 a List.mem_cons_self).2.1, (List.pairwise_cons.1 F.2).1⟩
theorem mem_cons {a : Rg} {A : List Rg} {y : Int} : mem (a :: A) y ↔ (a.1 ≤ y ∧ y < a.2) ∨ mem A y := by
  unfold mem
  constructor
  · rintro ⟨r, hr, h⟩
    rw [List.mem_cons] at hr
    rcases hr with rfl | hr
    · exact .inl h
    · exact .inr ⟨r, hr, h⟩
  · rintro (h | ⟨r, hr, h⟩)
    · exact ⟨a, List.mem_cons_self, h⟩
    · exact ⟨r, List.mem_cons_of_mem _ hr, h⟩
theorem mem_behind {a : Rg} {A : List Rg} (F : Fit (a :: A)) {y : Int} (h : mem A y) : a.2 < y := by
  obtain ⟨r, hr, h1, _⟩ := h
  have := (fit_head F).2 r hr
  omega
/-- One list of stretches for each set. -/
theorem fit_ext : ∀ (A B : List Rg), Fit A → Fit B → (∀ y, mem A y ↔ mem B y) → A = B := by
  intro A
  induction A with
  | nil =>
    intro B _ FB h
    cases B with
    | nil => rfl
    | cons b B =>
      have hb := fit_head FB
      exact absurd ((h b.1).2 (mem_cons.2 (.inl ⟨Int.le_refl _, hb.1⟩))) (by simp [mem])
  | cons a A ih =>
    intro B FA FB h
    cases B with
    | nil =>
      have ha := fit_head FA
      exact absurd ((h a.1).1 (mem_cons.2 (.inl ⟨Int.le_refl _, ha.1⟩))) (by simp [mem])
    | cons b B =>
      have ha := fit_head FA
      have hb := fit_head FB
      have low : ∀ {c d : Rg} {C D : List Rg}, Fit (c :: C) → Fit (d :: D) → (∀ y, mem (c :: C) y ↔ mem (d :: D) y) → d.1 ≤ c.1 := by
        intro c d C D Fc Fd hh
        have hc := fit_head Fc
        have := (hh c.1).1 (mem_cons.2 (.inl ⟨Int.le_refl _, hc.1⟩))
        rcases mem_cons.1 this with h1 | h1
        · exact h1.1
        · have := mem_behind Fd h1; have := fit_head Fd; omega
      have l1 := low FA FB h
      have l2 := low FB FA (fun y => (h y).symm)
      have high : ∀ {c d : Rg} {C D : List Rg}, Fit (c :: C) → Fit (d :: D) → (∀ y, mem (c :: C) y ↔ mem (d :: D) y) → c.1 = d.1 → d.2 ≤ c.2 := by
        intro c d C D Fc Fd hh he
        refine Int.not_lt.1 fun hlt => ?_
        have hc := fit_head Fc
        have := (hh c.2).2 (mem_cons.2 (.inl ⟨by omega, hlt⟩))
        rcases mem_cons.1 this with h1 | h1
        · omega
        · have := mem_behind Fc h1; omega
      have h1 := high FA FB h (by omega)
      have h2 := high FB FA (fun y => (h y).symm) (by omega)
      have e : a = b := Prod.ext (by omega) (by omega)
      subst e
      congr 1
      refine ih B (fit_tail FA) (fit_tail FB) (fun y => ?_)
      constructor
      · intro hy
        have hb2 := mem_behind FA hy
        rcases mem_cons.1 ((h y).1 (mem_cons.2 (.inr hy))) with h3 | h3
        · omega
        · exact h3
      · intro hy
        have hb2 := mem_behind FB hy
        rcases mem_cons.1 ((h y).2 (mem_cons.2 (.inr hy))) with h3 | h3
        · omega
        · exact h3

end Go.Proofs.Ytjbjaklbckhodab
