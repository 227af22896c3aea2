import Derived.Test.YtjbjaklbckhodabPlus
namespace Go.Proofs.Ytjbjaklbckhodab
open Go.RowKit
set_option maxRecDepth 100000

/-- What is left of a stretch without r. -/
def cutOf (r x : Rg) : List Rg :=
  if r.2 ≤ r.1 ∨ x.2 ≤ r.1 ∨ r.2 ≤ x.1 then [x] else (if x.1 < r.1 then [(x.1, r.1)] else []) ++ (if r.2 < x.2 then [(r.2, x.2)] else [])
/-- What the document's Minus gives. -/
def minusL (L : List Rg) (r : Rg) : List Rg := L.flatMap (cutOf r)
theorem cutOf_each {r x : Rg} (hx : x.1 < x.2) : ∀ p ∈ cutOf r x, x.1 ≤ p.1 ∧ p.1 < p.2 ∧ p.2 ≤ x.2 := by
  intro p hp
  unfold cutOf at hp
  split at hp
  · rw [List.mem_singleton.1 hp]; omega
  · rename_i h
    rcases List.mem_append.1 hp with hp | hp
    · split at hp
      · rw [List.mem_singleton.1 hp]; simp only; omega
      · simp at hp
    · split at hp
      · rw [List.mem_singleton.1 hp]; simp only; omega
      · simp at hp
theorem cutOf_rise {r x : Rg} : (cutOf r x).Pairwise (fun a b => a.2 < b.1) := by
  unfold cutOf
  split
  · simp
  · rename_i h
    split
    · split
      · simp; omega
      · simp
    · split
      · simp
      · simp
theorem cutOf_mem {r x : Rg} (y : Int) : mem (cutOf r x) y ↔ (x.1 ≤ y ∧ y < x.2) ∧ ¬ (r.1 ≤ y ∧ y < r.2) := by
  unfold cutOf
  split
  · unfold mem; simp; omega
  · rename_i h
    rw [mem_append]
    unfold mem
    split
    · split
      · simp; omega
      · simp; omega
    · split
      · simp; omega
      · simp; omega
theorem cutOf_len (r x : Rg) : (cutOf r x).length ≤ 2 := by
  unfold cutOf
  split
  · simp
  · split <;> split <;> simp
theorem minus_mem (L : List Rg) (r : Rg) (y : Int) : mem (minusL L r) y ↔ mem L y ∧ ¬ (r.1 ≤ y ∧ y < r.2) := by
  induction L with
  | nil => unfold minusL mem; simp
  | cons x l ih =>
    have e : minusL (x :: l) r = cutOf r x ++ minusL l r := rfl
    rw [e, mem_append, cutOf_mem, ih]
    unfold mem
    constructor
    · rintro (⟨h1, h2⟩ | ⟨⟨t, ht, h1⟩, h2⟩)
      · exact ⟨⟨x, List.mem_cons_self, h1⟩, h2⟩
      · exact ⟨⟨t, List.mem_cons_of_mem _ ht, h1⟩, h2⟩
    · rintro ⟨⟨t, ht, h1⟩, h2⟩
      rcases List.mem_cons.1 ht with rfl | ht
      · exact .inl ⟨h1, h2⟩
      · exact .inr ⟨⟨t, ht, h1⟩, h2⟩
theorem minus_fit {L : List Rg} (F : Fit L) (r : Rg) : Fit (minusL L r) := by
  refine ⟨fun p hp => ?_, ?_⟩
  · obtain ⟨x, hx, hp⟩ := List.mem_flatMap.1 hp
    have h1 := F.1 x hx
    have h2 := cutOf_each h1.2.1 p hp
    omega
  · unfold minusL
    rw [List.pairwise_flatMap]
    refine ⟨fun x _ => cutOf_rise, ?_⟩
    refine List.Pairwise.imp_of_mem ?_ F.2
    intro a b ha hb hab p hp q hq
    have h1 := cutOf_each (F.1 a ha).2.1 p hp
    have h2 := cutOf_each (F.1 b hb).2.1 q hq
    omega
theorem minus_snoc (L : List Rg) (k : Nat) (hk : k < L.length) (r : Rg) : minusL (L.take (k + 1)) r = minusL (L.take k) r ++ cutOf r L[k] := by
  unfold minusL
  rw [List.take_succ_eq_append_getElem hk, List.flatMap_append]
  simp
theorem minus_len (L : List Rg) (r : Rg) : (minusL L r).length ≤ 2 * L.length := by
  induction L with
  | nil => simp [minusL]
  | cons x l ih =>
    have e : minusL (x :: l) r = cutOf r x ++ minusL l r := rfl
    have := cutOf_len r x
    rw [e, List.length_append, List.length_cons]
    omega
theorem minus_rem {L : List Rg} (F : Fit L) (r : Rg) (h0 : 0 ≤ r.1) (h1 : r.2 ≤ 18446744073709551615) : minusL L r = remL L r :=
  fit_ext _ _ (minus_fit F r) (remL_fit F r h0 h1) fun y => (minus_mem L r y).trans (remL_mem F r y).symm

/-- What the document's Missing gives. -/
def missR (L : List Rg) (r : Rg) : List Rg := L.foldl minusL (addL [] r)
theorem fit_nil : Fit [] := ⟨fun r h => by simp at h, List.Pairwise.nil⟩
theorem foldl_minus {L : List Rg} : ∀ (c : List Rg), Fit c → Fit (L.foldl minusL c) ∧ ∀ y, mem (L.foldl minusL c) y ↔ mem c y ∧ ¬ mem L y := by
  induction L with
  | nil => intro c hc; exact ⟨hc, fun y => by simp [mem]⟩
  | cons x l ih =>
    intro c hc
    have h := ih (minusL c x) (minus_fit hc x)
    refine ⟨h.1, fun y => ?_⟩
    rw [List.foldl_cons, h.2 y, minus_mem]
    unfold mem
    constructor
    · rintro ⟨⟨h1, h2⟩, h3⟩
      refine ⟨h1, ?_⟩
      rintro ⟨t, ht, h4⟩
      rcases List.mem_cons.1 ht with rfl | ht
      · exact h2 h4
      · exact h3 ⟨t, ht, h4⟩
    · rintro ⟨h1, h2⟩
      exact ⟨⟨h1, fun h => h2 ⟨x, List.mem_cons_self, h⟩⟩, fun ⟨t, ht, h4⟩ => h2 ⟨t, List.mem_cons_of_mem _ ht, h4⟩⟩
theorem miss_apart {L : List Rg} (F : Fit L) (r : Rg) (h1 : r.1 ≤ 18446744073709551615) : ∀ k, k ≤ ovlB L r - ovlA L r → (∀ m ∈ (missAt L r k).1, m.2 < (missAt L r k).2) ∧ (missAt L r k).1.Pairwise (fun a b => a.2 < b.1) := by
  intro k
  induction k with
  | zero => intro _; simp [missAt]
  | succ k ih =>
    intro hk
    have h := ih (by omega)
    have S := miss_so F r h1 k (by omega)
    have ho := ovl_le F r
    have hi : ovlA L r + k < L.length := by omega
    have hn := S.next _ hi (by omega) (by omega)
    have hf := F.at _ hi
    simp only [missAt]
    rw [nth_eq hi]
    generalize (missAt L r k).1 = o at *
    generalize (missAt L r k).2 = lo at *
    by_cases hlt : lo < L[ovlA L r + k].1
    · rw [if_pos hlt]
      refine ⟨fun m hm => ?_, ?_⟩
      · rcases List.mem_append.1 hm with hm | hm
        · have := h.1 m hm; omega
        · rw [List.mem_singleton.1 hm]; simp only; omega
      · rw [List.pairwise_append]
        refine ⟨h.2, by simp, fun a ha b hb => ?_⟩
        rw [List.mem_singleton.1 hb]
        exact h.1 a ha
    · rw [if_neg hlt]
      exact ⟨fun m hm => by have := h.1 m hm; omega, h.2⟩
theorem missL_fit {L : List Rg} (F : Fit L) (r : Rg) (h0 : 0 ≤ r.1) (h1 : r.1 ≤ 18446744073709551615) (h2 : r.2 ≤ 18446744073709551615) : Fit (missL L r) := by
  refine ⟨fun m hm => by have := (missL_each F r h1).1 m hm; omega, ?_⟩
  have h := miss_apart F r h1 _ (Nat.le_refl _)
  unfold missL
  split
  · rw [List.pairwise_append]
    refine ⟨h.2, by simp, fun a ha b hb => ?_⟩
    rw [List.mem_singleton.1 hb]
    exact h.1 a ha
  · exact h.2
theorem addL_nil_mem (r : Rg) (y : Int) : mem (addL [] r) y ↔ r.1 ≤ y ∧ y < r.2 := by
  rw [addL_mem fit_nil]
  unfold mem
  simp
theorem missR_is {L : List Rg} (F : Fit L) (r : Rg) (h0 : 0 ≤ r.1) (h1 : r.1 ≤ 18446744073709551615) (h2 : r.2 ≤ 18446744073709551615) : missR L r = missL L r := by
  have h := foldl_minus (L := L) (addL [] r) (addL_fit fit_nil r h0 h2)
  refine fit_ext _ _ h.1 (missL_fit F r h0 h1 h2) fun y => ?_
  unfold missR
  rw [h.2 y, missL_mem F r h1 y, addL_nil_mem]
theorem fit_take {L : List Rg} (F : Fit L) (k : Nat) : Fit (L.take k) := ⟨fun r hr => F.1 r (List.mem_of_mem_take hr), F.2.sublist (List.take_sublist k L)⟩
theorem missR_len {L : List Rg} (F : Fit L) (r : Rg) (h0 : 0 ≤ r.1) (h1 : r.1 ≤ 18446744073709551615) (h2 : r.2 ≤ 18446744073709551615) (k : Nat) (hk : k ≤ L.length) : (missR (L.take k) r).length ≤ k + 1 := by
  rw [missR_is (fit_take F k) r h0 h1 h2]
  have h := (missL_each (fit_take F k) r h1).2.2
  rw [List.length_take] at h
  omega
theorem missR_snoc (L : List Rg) (k : Nat) (hk : k < L.length) (r : Rg) : missR (L.take (k + 1)) r = minusL (missR (L.take k) r) L[k] := by
  unfold missR
  rw [List.take_succ_eq_append_getElem hk, List.foldl_append]
  rfl
/-- What the document's Gap gives. -/
def gapR : List Rg → Int → Int
  | [], x => x
  | r :: l, x => if r.1 ≤ x ∧ x < r.2 then r.2 else gapR l x
theorem gapR_hit {L : List Rg} {x : Int} (k : Nat) (hk : k < L.length) (hno : hasB (L.take k) x = false) (h1 : L[k].1 ≤ x) (h2 : x < L[k].2) : gapR L x = L[k].2 := by
  induction L generalizing k with
  | nil => simp at hk
  | cons r l ih =>
    cases k with
    | zero => unfold gapR; rw [if_pos ⟨h1, h2⟩]; rfl
    | succ k =>
      have hn : ¬ (r.1 ≤ x ∧ x < r.2) := by
        intro h
        have : hasB ((r :: l).take (k + 1)) x = true := (hasB_iff _ _).2 ⟨r, by simp, h⟩
        rw [hno] at this; cases this
      unfold gapR
      rw [if_neg hn]
      refine ih k (by simpa using hk) ?_ h1 h2
      rw [← Bool.not_eq_true, hasB_iff] at hno ⊢
      rintro ⟨t, ht, h⟩
      exact hno ⟨t, by rw [List.take_succ_cons]; exact List.mem_cons_of_mem _ ht, h⟩
theorem gapR_none {L : List Rg} {x : Int} (hno : hasB L x = false) : gapR L x = x := by
  induction L with
  | nil => rfl
  | cons r l ih =>
    rw [← Bool.not_eq_true, hasB_iff] at hno
    unfold gapR
    rw [if_neg (fun h => hno ⟨r, List.mem_cons_self, h⟩)]
    refine ih ?_
    rw [← Bool.not_eq_true, hasB_iff]
    rintro ⟨t, ht, h⟩
    exact hno ⟨t, List.mem_cons_of_mem _ ht, h⟩
theorem gapR_is {L : List Rg} (F : Fit L) (x : Int) : gapR L x = gapOf L x := by
  by_cases h : mem L x
  · obtain ⟨i, hi, h1, h2⟩ := mem_get h
    rw [gapOf_in F i hi x h1 h2]
    refine gapR_hit i hi ?_ h1 h2
    rw [← Bool.not_eq_true, hasB_iff]
    rintro ⟨t, ht, h3⟩
    obtain ⟨j, hj, rfl⟩ := List.getElem_of_mem ht
    rw [List.getElem_take] at h3
    have hj' : j < i := by rw [List.length_take] at hj; omega
    have := F.lt j i hj' hi
    omega
  · have hb : hasB L x = false := by rw [← Bool.not_eq_true, hasB_iff]; exact h
    rw [gapR_none hb]
    have : ¬ gapOf L x ≠ x := fun e => h ((gap_iff F x).1 e)
    omega
theorem has_is {L : List Rg} (F : Fit L) (x : Int) : (gapOf L x != x) = hasB L x := by
  by_cases h : mem L x
  · rw [(hasB_iff L x).2 h]
    simp only [bne_iff_ne]
    exact (gap_iff F x).2 h
  · have hb : hasB L x = false := by rw [← Bool.not_eq_true, hasB_iff]; exact h
    rw [hb]
    have : ¬ gapOf L x ≠ x := fun e => h ((gap_iff F x).1 e)
    simp at this ⊢
    exact this
theorem covers_is {L : List Rg} (F : Fit L) (r : Rg) (h0 : 0 ≤ r.1) (h1 : r.1 ≤ 18446744073709551615) (h2 : r.2 ≤ 18446744073709551615) : decide (r.2 ≤ gapOf L r.1) = (((missR L r).length : Int) == 0) := by
  rw [missR_is F r h0 h1 h2, ← missL_nil F r h1]
  have hz := total_zero (L := missL L r) (fun m hm => ((missL_each F r h1).1 m hm).2.1)
  by_cases h : missL L r = []
  · rw [h]; simp [total]
  · have h3 : total (missL L r) ≠ 0 := fun e => h (hz.2.1 e)
    have h4 : (missL L r).length ≠ 0 := fun e => h (List.eq_nil_of_length_eq_zero e)
    rw [beq_eq_false_iff_ne.2 h3, beq_eq_false_iff_ne.2 (by omega)]
end Go.Proofs.Ytjbjaklbckhodab
