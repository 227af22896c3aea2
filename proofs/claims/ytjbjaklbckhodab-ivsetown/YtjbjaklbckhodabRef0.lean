import Derived.Test.YtjbjaklbckhodabMiss0
namespace Go.Proofs.Ytjbjaklbckhodab
open Go.RowKit
set_option maxRecDepth 100000

/-- The reference: a range behind a list of stretches, where none begins later. -/
def ofStep (s : List Rg) (r : Rg) : List Rg :=
  if s = [] then [r] else
  if r.1 ≤ (nth s (s.length - 1)).2 then
    (if (nth s (s.length - 1)).2 < r.2 then s.take (s.length - 1) ++ [((nth s (s.length - 1)).1, r.2)] else s)
  else s ++ [r]
def ofL (L : List Rg) : List Rg := L.foldl ofStep []
theorem ofL_snoc (L : List Rg) (k : Nat) (h : k < L.length) : ofL (L.take (k + 1)) = ofStep (ofL (L.take k)) L[k] := by
  unfold ofL
  rw [List.take_succ_eq_append_getElem h, List.foldl_append]
  rfl
theorem last_split (s : List Rg) (h : s ≠ []) : s = s.take (s.length - 1) ++ [nth s (s.length - 1)] := by
  have hl : 0 < s.length := List.length_pos_iff.2 h
  have e := List.take_succ_eq_append_getElem (l := s) (i := s.length - 1) (by omega)
  rw [show s.length - 1 + 1 = s.length by omega, List.take_length] at e
  rw [nth_eq (by omega)]
  exact e
theorem fit_snoc {A : List Rg} {t : Rg} : Fit (A ++ [t]) ↔ Fit A ∧ (0 ≤ t.1 ∧ t.1 < t.2 ∧ t.2 ≤ 18446744073709551615) ∧ ∀ a ∈ A, a.2 < t.1 := by
  constructor
  · intro F
    have hp := List.pairwise_append.1 F.2
    exact ⟨⟨fun r h => F.1 r (List.mem_append_left _ h), hp.1⟩, F.1 t (List.mem_append_right _ List.mem_cons_self), fun a ha => hp.2.2 a ha t List.mem_cons_self⟩
  · rintro ⟨FA, ht, ha⟩
    refine ⟨fun r h => ?_, List.pairwise_append.2 ⟨FA.2, by simp, fun a h b hb => ?_⟩⟩
    · rcases List.mem_append.1 h with h | h
      · exact FA.1 r h
      · rw [List.mem_singleton.1 h]; exact ht
    · rw [List.mem_singleton.1 hb]; exact ha a h

structure OfSo (P s : List Rg) : Prop where
  fit : Fit s
  len : s.length ≤ P.length
  is : ∀ y, mem s y ↔ mem P y
  from_ : ∀ t ∈ s, ∃ r ∈ P, t.1 = r.1
theorem of_step {P s : List Rg} {r : Rg} (O : OfSo P s) (hr : 0 ≤ r.1 ∧ r.1 < r.2 ∧ r.2 ≤ 18446744073709551615) (hle : ∀ x ∈ P, x.1 ≤ r.1) : OfSo (P ++ [r]) (ofStep s r) := by
  have hlt : ∀ t ∈ s, t.1 ≤ r.1 := fun t ht => by
    obtain ⟨x, hx, e⟩ := O.from_ t ht
    rw [e]; exact hle x hx
  have hto : ∀ t ∈ s, ∃ x ∈ P ++ [r], t.1 = x.1 := fun t ht => by
    obtain ⟨x, hx, e⟩ := O.from_ t ht
    exact ⟨x, List.mem_append_left _ hx, e⟩
  have hlen := O.len
  unfold ofStep
  by_cases hs : s = []
  · rw [if_pos hs]
    refine ⟨(fit_snoc (A := [])).2 ⟨⟨fun r h => by simp at h, by simp⟩, hr, fun a h => by simp at h⟩, by simp, fun y => ?_, fun t ht => ⟨r, by simp, by rw [List.mem_singleton.1 ht]⟩⟩
    have h0 := O.is y
    rw [hs] at h0
    rw [mem_append]
    constructor
    · exact .inr
    · rintro (h | h)
      · obtain ⟨x, hx, _⟩ := h0.2 h; simp at hx
      · exact h
  · rw [if_neg hs]
    have e := last_split s hs
    have hnl : 0 < s.length := List.length_pos_iff.2 hs
    have ht1 := hlt (nth s (s.length - 1)) (by rw [nth_eq (by omega)]; exact List.getElem_mem _)
    obtain ⟨x0, hx0, ex0⟩ := hto (nth s (s.length - 1)) (by rw [nth_eq (by omega)]; exact List.getElem_mem _)
    have F := O.fit
    have hA : ∀ a ∈ s.take (s.length - 1), a ∈ s := fun a h => List.mem_of_mem_take h
    have hmem := O.is
    have hlA : (s.take (s.length - 1)).length = s.length - 1 := by simp
    generalize hAe : s.take (s.length - 1) = A at *
    generalize nth s (s.length - 1) = t at *
    have F' := F
    rw [e] at F'
    obtain ⟨FA, ht, ha⟩ := fit_snoc.1 F'
    by_cases h1 : r.1 ≤ t.2
    · rw [if_pos h1]
      by_cases h2 : t.2 < r.2
      · rw [if_pos h2]
        refine ⟨fit_snoc.2 ⟨FA, by simp only; omega, ha⟩, by simp; omega, fun y => ?_, fun u hu => ?_⟩
        · rw [mem_append, mem_append, mem_one, mem_one, ← hmem y]
          conv => rhs; rw [e]
          rw [mem_append, mem_one]
          simp only
          constructor
          · rintro (h | h)
            · exact .inl (.inl h)
            · by_cases hy : y < t.2
              · exact .inl (.inr (by omega))
              · exact .inr (by omega)
          · rintro ((h | h) | h)
            · exact .inl h
            · exact .inr (by omega)
            · exact .inr (by omega)
        · rcases List.mem_append.1 hu with h | h
          · exact hto u (hA u h)
          · rw [List.mem_singleton.1 h]
            exact ⟨x0, hx0, ex0⟩
      · rw [if_neg h2]
        refine ⟨F, by simp; omega, fun y => ?_, hto⟩
        rw [mem_append, mem_one, ← hmem y]
        constructor
        · exact .inl
        · rintro (h | h)
          · exact h
          · rw [e, mem_append, mem_one]
            exact .inr (by omega)
    · rw [if_neg h1]
      refine ⟨fit_snoc.2 ⟨F, hr, fun a h => ?_⟩, by simp; omega, fun y => ?_, fun u hu => ?_⟩
      · rw [e] at h
        rcases List.mem_append.1 h with h | h
        · have := ha a h; omega
        · rw [List.mem_singleton.1 h]; omega
      · rw [mem_append, mem_append, hmem y]
      · rcases List.mem_append.1 hu with h | h
        · exact hto u h
        · exact ⟨r, by simp, by rw [List.mem_singleton.1 h]⟩
/-- Of ranges that are not empty and rise by where they begin: the set of them. -/
theorem of_so {L : List Rg} (h0 : ∀ r ∈ L, 0 ≤ r.1 ∧ r.1 < r.2 ∧ r.2 ≤ 18446744073709551615) (hp : L.Pairwise (fun a b => a.1 ≤ b.1)) : ∀ k, k ≤ L.length → OfSo (L.take k) (ofL (L.take k)) := by
  intro k
  induction k with
  | zero => intro _; exact ⟨⟨fun r h => by simp [ofL] at h, by simp [ofL]⟩, by simp [ofL], fun y => by simp [ofL], fun t ht => by simp [ofL] at ht⟩
  | succ k ih =>
    intro hk
    have hk' : k < L.length := by omega
    rw [ofL_snoc L k hk', List.take_succ_eq_append_getElem hk']
    refine of_step (ih (by omega)) (h0 _ (List.getElem_mem hk')) (fun x hx => ?_)
    obtain ⟨i, hi, hik, rfl⟩ := mem_take_get hx
    exact (List.pairwise_iff_getElem.1 hp) i k hi hk' hik

end Go.Proofs.Ytjbjaklbckhodab
