import Derived.Test.YtoeldomhkeancaaHp0
namespace Go.Proofs.Ytoeldomhkeancaa
set_option maxRecDepth 100000
theorem Ah.trans {a b c : Key} (h : Ah a b) (k : Ah b c) : Ah a c := by unfold Ah at *; omega
/-- The least of a place and of those of its children that were looked at. -/
structure InI (n : Nat) (K : Nat → Key) (k b l : Nat) : Prop where
  lo : 2 * k + 1 ≤ b
  hi : b ≤ 2 * k + 3
  it : l = k ∨ (par l = k ∧ 0 < l ∧ l < n ∧ Ah (K l) (K k))
  le : ∀ j, 2 * k + 1 ≤ j → j < b → j < n → Le (K l) (K j)
theorem InI.start (n : Nat) (K : Nat → Key) (k : Nat) : InI n K k (2 * k + 1) k := ⟨Nat.le_refl _, by omega, .inl rfl, fun j h1 h2 => by omega⟩
theorem InI.yes {n : Nat} {K : Nat → Key} {k b l : Nat} (h : InI n K k b l) (hb : b ≤ 2 * k + 2) (hn : b < n) (ha : Ah (K b) (K l)) : InI n K k (b + 1) b := by
  have h1 := h.lo
  refine ⟨by omega, by omega, .inr ⟨by unfold par; omega, by omega, hn, ?_⟩, fun j hj hjb hjn => ?_⟩
  · rcases h.it with e | ⟨_, _, _, e⟩
    · rw [← e]; exact ha
    · exact ha.trans e
  · by_cases e : j = b
    · rw [e]; exact Le.refl _
    · exact ha.le.trans (h.le j hj (by omega) hjn)
theorem InI.no {n : Nat} {K : Nat → Key} {k b l : Nat} (h : InI n K k b l) (hb : b ≤ 2 * k + 2) (ha : ¬ Ah (K b) (K l)) : InI n K k (b + 1) l := by
  have h1 := h.lo
  refine ⟨by omega, by omega, h.it, fun j hj hjb hjn => ?_⟩
  by_cases e : j = b
  · rw [e]; exact ha
  · exact h.le j hj (by omega) hjn
theorem InI.all {n : Nat} {K : Nat → Key} {k b l : Nat} (h : InI n K k b l) (hb : ¬ b ≤ 2 * k + 2 ∨ ¬ b < n) : ∀ j, 0 < j → j < n → par j = k → Le (K l) (K j) := fun j h0 hj hp => by
  have h1 := h.lo
  have h2 := h.hi
  unfold par at hp
  exact h.le j (by omega) (by omega) hj
theorem InI.lt {n : Nat} {K : Nat → Key} {k b l : Nat} (h : InI n K k b l) (hk : k < n) : l < n := by
  rcases h.it with e | ⟨_, _, e, _⟩ <;> omega
section
variable {α : Type}
/-- What is left of a heap once its first is gone and its last stands there. -/
theorem pop_dn {L : List (It α)} (hh : Hp L.length (kat L)) (z : It α) : DnI (L.length - 1) (kat ((L.set 0 z).dropLast)) 0 := by
  refine ⟨fun j h0 hj hp => ?_, fun j _ _ _ h => by omega⟩
  have hpl := par_lt h0
  have e : ∀ i, 0 < i → i < L.length - 1 → kat ((L.set 0 z).dropLast) i = kat L i := fun i hi hl => by
    unfold kat
    rw [List.getElem?_dropLast, if_pos (by simpa using hl), List.getElem?_set_ne (by omega)]
  rw [e j h0 hj, e (par j) (by omega) (by omega)]
  exact hh j h0 (by omega)
theorem pop_perm {L : List (It α)} {a z : It α} (ha : L[0]? = some a) (hz : L[L.length - 1]? = some z) : (a :: (L.set 0 z).dropLast).Perm L := by
  cases L with
  | nil => simp at ha
  | cons b r =>
    simp at ha
    subst ha
    rcases List.eq_nil_or_concat r with rfl | ⟨m, y, rfl⟩
    · simp
    · have : z = y := by simpa using hz.symm
      subst this
      simp only [List.set_cons_zero, List.concat_eq_append]
      rw [← List.cons_append, List.dropLast_concat]
      refine List.Perm.cons _ ?_
      exact (List.perm_append_comm (l₁ := [z]) (l₂ := m))
end
end Go.Proofs.Ytoeldomhkeancaa
