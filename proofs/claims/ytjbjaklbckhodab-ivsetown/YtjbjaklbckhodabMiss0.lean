import Derived.Test.YtjbjaklbckhodabCnt
namespace Go.Proofs.Ytjbjaklbckhodab
open Go.RowKit
set_option maxRecDepth 100000

/-- What was gathered behind k of the stretches that r meets, and from where on it is open. -/
def missAt (L : List Rg) (r : Rg) : Nat → List Rg × Int
  | 0 => ([], r.1)
  | k + 1 => (if (missAt L r k).2 < (nth L (ovlA L r + k)).1 then (missAt L r k).1 ++ [((missAt L r k).2, (nth L (ovlA L r + k)).1)] else (missAt L r k).1, (nth L (ovlA L r + k)).2)
/-- What of r is not there. -/
def missL (L : List Rg) (r : Rg) : List Rg :=
  if (missAt L r (ovlB L r - ovlA L r)).2 < r.2 then (missAt L r (ovlB L r - ovlA L r)).1 ++ [((missAt L r (ovlB L r - ovlA L r)).2, r.2)] else (missAt L r (ovlB L r - ovlA L r)).1

theorem mem_append {A B : List Rg} {y : Int} : mem (A ++ B) y ↔ mem A y ∨ mem B y := by
  unfold mem
  simp only [List.mem_append]
  constructor
  · rintro ⟨r, h | h, h2⟩
    · exact .inl ⟨r, h, h2⟩
    · exact .inr ⟨r, h, h2⟩
  · rintro (⟨r, h, h2⟩ | ⟨r, h, h2⟩)
    · exact ⟨r, .inl h, h2⟩
    · exact ⟨r, .inr h, h2⟩

structure MissSo (L : List Rg) (r : Rg) (k : Nat) (o : List Rg) (lo : Int) : Prop where
  from_ : r.1 ≤ lo
  ahead : ∀ i (h : i < L.length), i < ovlA L r + k → L[i].2 ≤ lo
  each : ∀ m ∈ o, r.1 ≤ m.1 ∧ m.1 < m.2 ∧ m.2 ≤ r.2 ∧ m.2 ≤ lo
  rise : o.Pairwise (fun a b => a.2 ≤ b.1)
  len : o.length ≤ k
  is : ∀ y, mem o y ↔ r.1 ≤ y ∧ y < lo ∧ y < r.2 ∧ ¬ mem L y
  bd : lo ≤ 18446744073709551615
  next : ∀ j (h : j < L.length), ovlA L r + k ≤ j → j < ovlB L r → lo < L[j].2

theorem miss_so {L : List Rg} (F : Fit L) (r : Rg) (h1 : r.1 ≤ 18446744073709551615) : ∀ k, k ≤ ovlB L r - ovlA L r → MissSo L r k (missAt L r k).1 (missAt L r k).2 := by
  intro k
  induction k with
  | zero =>
    intro _
    refine ⟨Int.le_refl _, fun i h hi => ovl_ahead r i h (by omega), fun m hm => by simp [missAt] at hm, by simp [missAt], by simp [missAt], fun y => ?_, h1, fun j h hA hB => (ovl_meets F r j (by omega) hB h).1⟩
    simp only [missAt]
    constructor
    · rintro ⟨m, hm, _⟩; simp at hm
    · intro h; omega
  | succ k ih =>
    intro hk
    have S := ih (by omega)
    have ho := ovl_le F r
    have hi : ovlA L r + k < L.length := by omega
    have hm := ovl_meets F r (ovlA L r + k) (by omega) (by omega) hi
    have hf := F.at _ hi
    simp only [missAt]
    rw [nth_eq hi]
    generalize (missAt L r k).1 = o at *
    generalize (missAt L r k).2 = lo at *
    have hno : ∀ y, lo ≤ y → y < L[ovlA L r + k].1 → ¬ mem L y := by
      intro y hy1 hy2 hmem
      obtain ⟨i, h, hc1, hc2⟩ := mem_get hmem
      by_cases hik : i < ovlA L r + k
      · have := S.ahead i h hik; omega
      · have := F.mono_lo (ovlA L r + k) i (by omega) h; omega
    have hah : ∀ i (h : i < L.length), i < ovlA L r + (k + 1) → L[i].2 ≤ L[ovlA L r + k].2 := fun i h hi' => F.mono_hi i (ovlA L r + k) (by omega) hi
    have hloT : lo < L[ovlA L r + k].2 := S.next _ hi (Nat.le_refl _) (by omega)
    have hin : ∀ y, L[ovlA L r + k].1 ≤ y → y < L[ovlA L r + k].2 → mem L y := fun y h1 h2 => mem_at _ hi h1 h2
    have hnx : ∀ j (h : j < L.length), ovlA L r + (k + 1) ≤ j → j < ovlB L r → L[ovlA L r + k].2 < L[j].2 := fun j h hA hB => by
      have := F.lt (ovlA L r + k) j (by omega) h
      have := F.at j h
      omega
    generalize L[ovlA L r + k] = t at *
    have hfr := S.from_
    by_cases hlt : lo < t.1
    · rw [if_pos hlt]
      refine ⟨by omega, hah, fun m hm' => ?_, ?_, ?_, fun y => ?_, by omega, hnx⟩
      · rcases List.mem_append.1 hm' with h | h
        · have := S.each m h; omega
        · rw [List.mem_singleton.1 h]; simp only; omega
      · rw [List.pairwise_append]
        refine ⟨S.rise, by simp, fun a ha b hb => ?_⟩
        rw [List.mem_singleton.1 hb]
        exact (S.each a ha).2.2.2
      · rw [List.length_append]; have := S.len; simp; omega
      · rw [mem_append, mem_one, S.is y]
        constructor
        · rintro (⟨a, b, c, d⟩ | ⟨a, b⟩)
          · exact ⟨a, by omega, c, d⟩
          · simp only at a b
            exact ⟨by omega, by omega, by omega, hno y a b⟩
        · rintro ⟨a, b, c, d⟩
          by_cases hy : y < lo
          · exact .inl ⟨a, hy, c, d⟩
          · right
            simp only
            refine ⟨by omega, ?_⟩
            by_cases hy2 : y < t.1
            · exact hy2
            · exact absurd (hin y (by omega) b) d
    · rw [if_neg hlt]
      refine ⟨by omega, hah, fun m hm' => ?_, S.rise, ?_, fun y => ?_, by omega, hnx⟩
      · have := S.each m hm'; omega
      · have := S.len; omega
      · rw [S.is y]
        constructor
        · rintro ⟨a, b, c, d⟩
          exact ⟨a, by omega, c, d⟩
        · rintro ⟨a, b, c, d⟩
          refine ⟨a, ?_, c, d⟩
          by_cases hy : y < lo
          · exact hy
          · exact absurd (hin y (by omega) b) d

theorem missL_mem {L : List Rg} (F : Fit L) (r : Rg) (h1 : r.1 ≤ 18446744073709551615) (y : Int) : mem (missL L r) y ↔ (r.1 ≤ y ∧ y < r.2) ∧ ¬ mem L y := by
  have S := miss_so F r h1 _ (Nat.le_refl _)
  have ho := ovl_le F r
  unfold missL
  generalize (missAt L r (ovlB L r - ovlA L r)).1 = o at *
  generalize (missAt L r (ovlB L r - ovlA L r)).2 = lo at *
  have hfr := S.from_
  by_cases hlt : lo < r.2
  · rw [if_pos hlt, mem_append, mem_one, S.is y]
    constructor
    · rintro (⟨a, b, c, d⟩ | ⟨a, b⟩)
      · exact ⟨⟨a, c⟩, d⟩
      · simp only at a b
        refine ⟨⟨by omega, b⟩, fun hmem => ?_⟩
        obtain ⟨i, h, hc1, hc2⟩ := mem_get hmem
        by_cases hik : i < ovlB L r
        · have := S.ahead i h (by omega); omega
        · have := ovl_behind F r (by omega) i h (by omega); omega
    · rintro ⟨⟨a, b⟩, d⟩
      by_cases hy : y < lo
      · exact .inl ⟨a, hy, b, d⟩
      · exact .inr (by simp only; omega)
  · rw [if_neg hlt, S.is y]
    constructor
    · rintro ⟨a, b, c, d⟩; exact ⟨⟨a, c⟩, d⟩
    · rintro ⟨⟨a, b⟩, d⟩; exact ⟨a, by omega, b, d⟩
theorem missL_each {L : List Rg} (F : Fit L) (r : Rg) (h1 : r.1 ≤ 18446744073709551615) : (∀ m ∈ missL L r, r.1 ≤ m.1 ∧ m.1 < m.2 ∧ m.2 ≤ r.2) ∧ (missL L r).Pairwise (fun a b => a.2 ≤ b.1) ∧ (missL L r).length ≤ L.length + 1 := by
  have S := miss_so F r h1 _ (Nat.le_refl _)
  have ho := ovl_le F r
  unfold missL
  generalize (missAt L r (ovlB L r - ovlA L r)).1 = o at *
  generalize (missAt L r (ovlB L r - ovlA L r)).2 = lo at *
  have hfr := S.from_
  have hl := S.len
  by_cases hlt : lo < r.2
  · rw [if_pos hlt]
    refine ⟨fun m hm => ?_, ?_, by simp; omega⟩
    · rcases List.mem_append.1 hm with h | h
      · have := S.each m h; omega
      · rw [List.mem_singleton.1 h]; simp only; omega
    · rw [List.pairwise_append]
      refine ⟨S.rise, by simp, fun a ha b hb => ?_⟩
      rw [List.mem_singleton.1 hb]
      exact (S.each a ha).2.2.2
  · rw [if_neg hlt]
    exact ⟨fun m hm => by have := S.each m hm; omega, S.rise, by omega⟩
theorem missL_rise {L : List Rg} (F : Fit L) (r : Rg) (h0 : 0 ≤ r.1) (h1 : r.1 ≤ 18446744073709551615) (h2 : r.2 ≤ 18446744073709551615) : Rise (missL L r) :=
  ⟨fun m hm => by have := (missL_each F r h1).1 m hm; omega, (missL_each F r h1).2.1⟩
/-- What is missing is as much as Add answers. -/
theorem missL_total {L : List Rg} (F : Fit L) (r : Rg) (h0 : 0 ≤ r.1) (h1 : r.1 ≤ 18446744073709551615) (h2 : r.2 ≤ 18446744073709551615) : total (missL L r) = freshOf L r := by
  have e := total_sum (missL_rise F r h0 h1 h2) F.rise (addL_fit F r h0 h2).rise rise_nil (fun y => by
    have hn : ind [] y = 0 := rfl
    by_cases hr : r.1 ≤ y ∧ y < r.2
    · by_cases hL : mem L y
      · rw [ind_no (fun hm => ((missL_mem F r h1 y).1 hm).2 hL), ind_yes hL, ind_yes ((addL_mem F r y).2 (.inl hL)), hn]; rfl
      · rw [ind_yes ((missL_mem F r h1 y).2 ⟨hr, hL⟩), ind_no hL, ind_yes ((addL_mem F r y).2 (.inr hr)), hn]
    · by_cases hL : mem L y
      · rw [ind_no (fun hm => ((missL_mem F r h1 y).1 hm).2 hL), ind_yes hL, ind_yes ((addL_mem F r y).2 (.inl hL)), hn]; rfl
      · rw [ind_no (fun hm => hr ((missL_mem F r h1 y).1 hm).1), ind_no hL, ind_no (fun hm => ((addL_mem F r y).1 hm).elim hL hr), hn])
  rw [addL_total F r h0 h2] at e
  simp only [total] at e
  omega
theorem total_zero {L : List Rg} (h : ∀ r ∈ L, r.1 < r.2) : 0 ≤ total L ∧ (total L = 0 ↔ L = []) := by
  induction L with
  | nil => simp [total]
  | cons a l ih =>
    have := ih (fun r hr => h r (List.mem_cons_of_mem _ hr))
    have h0 := h a List.mem_cons_self
    simp only [total]
    refine ⟨by omega, fun h => by omega, fun h => by cases h⟩
/-- Nothing is missing just where all is there. -/
theorem missL_nil {L : List Rg} (F : Fit L) (r : Rg) (h1 : r.1 ≤ 18446744073709551615) : (total (missL L r) == 0) = decide (r.2 ≤ gapOf L r.1) := by
  rw [Bool.eq_iff_iff, beq_iff_eq, decide_eq_true_eq, (total_zero (fun m hm => ((missL_each F r h1).1 m hm).2.1)).2]
  constructor
  · intro e
    by_cases h : r.2 ≤ gapOf L r.1
    · exact h
    · have hg := gap_ge F r.1
      have := (missL_mem F r h1 (gapOf L r.1)).2 ⟨⟨hg, by omega⟩, gap_not F r.1⟩
      rw [e] at this
      obtain ⟨m, hm, _⟩ := this
      simp at hm
  · intro h
    refine List.eq_nil_iff_forall_not_mem.2 (fun m hm => ?_)
    have hb := (missL_each F r h1).1 m hm
    have := (missL_mem F r h1 m.1).1 ⟨m, hm, Int.le_refl _, hb.2.1⟩
    exact this.2 (gap_all F r.1 m.1 this.1.1 (by omega))

end Go.Proofs.Ytjbjaklbckhodab
