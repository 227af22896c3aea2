import Derived.Test.YtjbjaklbckhodaaSame
import Derived.Test.YtjbjaklbckhodaaOpen
namespace Go.Proofs.Ytjbjaklbckhodaa
open Go.RowKit

/-- Where the i-th round looks. -/
def place (n f i : Nat) : Nat := if n % 7 = 0 then n - 1 - i else (i * 7 + f) % n
theorem place_lt {n f i : Nat} (h : i < n) : place n f i < n := by
  unfold place
  split
  · omega
  · exact Nat.mod_lt _ (by omega)
theorem seven_inv {n : Nat} (h : ¬ n % 7 = 0) : ∃ u m, u * 7 = m * n + 1 := by
  have h7 : n % 7 < 7 := Nat.mod_lt _ (by omega)
  have : n % 7 = 1 ∨ n % 7 = 2 ∨ n % 7 = 3 ∨ n % 7 = 4 ∨ n % 7 = 5 ∨ n % 7 = 6 := by omega
  rcases this with h | h | h | h | h | h
  · exact ⟨(6 * n + 1) / 7, 6, by omega⟩
  · exact ⟨(3 * n + 1) / 7, 3, by omega⟩
  · exact ⟨(2 * n + 1) / 7, 2, by omega⟩
  · exact ⟨(5 * n + 1) / 7, 5, by omega⟩
  · exact ⟨(4 * n + 1) / 7, 4, by omega⟩
  · exact ⟨(1 * n + 1) / 7, 1, by omega⟩
/-- Every place is looked at. -/
theorem place_onto {n f j : Nat} (hf : f < n) (hj : j < n) : ∃ i, i < n ∧ place n f i = j := by
  unfold place
  by_cases h7 : n % 7 = 0
  · exact ⟨n - 1 - j, by omega, by rw [if_pos h7]; omega⟩
  · obtain ⟨u, m, hu⟩ := seven_inv h7
    refine ⟨u * (j + n - f) % n, Nat.mod_lt _ (by omega), ?_⟩
    rw [if_neg h7]
    obtain ⟨d, hd⟩ : ∃ d, d = j + n - f := ⟨_, rfl⟩
    rw [← hd]
    have e1 : (u * d % n * 7 + f) % n = (u * d * 7 + f) % n := by
      rw [Nat.add_mod, Nat.mul_mod (u * d % n) 7 n, Nat.mod_mod, ← Nat.mul_mod, ← Nat.add_mod]
    have e2 : u * d * 7 + f = j + n * (m * d + 1) := by
      have a1 : u * d * 7 = (m * n + 1) * d := by rw [← hu]; rw [Nat.mul_assoc, Nat.mul_comm d 7, ← Nat.mul_assoc]
      have a2 : (m * n + 1) * d = n * (m * d) + d := by
        rw [Nat.add_mul, Nat.one_mul, Nat.mul_comm m n, Nat.mul_assoc]
      rw [a1, a2, Nat.mul_add, Nat.mul_one]
      omega
    rw [e1, e2, Nat.add_mul_mod_self_left, Nat.mod_eq_of_lt hj]

/-- A range in two parts. -/
theorem add_two {M : List Rg} (F : Fit M) {rl rh c : Int} (h0 : 0 ≤ rl) (h1 : rh ≤ 18446744073709551615) (hc : c = rl ∨ (rl < c ∧ c < rh)) : addL (addL M (c, rh)) (rl, c) = addL M (rl, rh) := by
  rcases hc with rfl | ⟨ha, hb⟩
  · generalize addL M (c, rh) = N
    unfold addL
    rw [if_pos (Int.le_refl c)]
  · have F1 := addL_fit F (c, rh) (by simp only; omega) h1
    refine fit_ext _ _ (addL_fit F1 _ h0 (by simp only; omega)) (addL_fit F _ h0 h1) (fun y => ?_)
    rw [addL_mem F1, addL_mem F, addL_mem F]
    simp only
    constructor
    · rintro ((h | h) | h)
      · exact .inl h
      · exact .inr (by omega)
      · exact .inr (by omega)
    · rintro (h | h)
      · exact .inl (.inl h)
      · by_cases hy : c ≤ y
        · exact .inl (.inr (by omega))
        · exact .inr (by omega)

/-- The order in which the rounds look. -/
def looks (L : List Rg) (f : Nat) : List Rg := (List.range L.length).map (fun i => nth L (place L.length f i))
theorem looks_length (L : List Rg) (f : Nat) : (looks L f).length = L.length := by simp [looks]
theorem looks_get (L : List Rg) (f k : Nat) (h : k < (looks L f).length) : (looks L f)[k] = nth L (place L.length f k) := by simp [looks]
theorem looks_mem {L : List Rg} {f : Nat} (hf : L ≠ [] → f < L.length) (r : Rg) : r ∈ looks L f ↔ r ∈ L := by
  unfold looks
  rw [List.mem_map]
  constructor
  · rintro ⟨i, hi, rfl⟩
    have hi := List.mem_range.1 hi
    have hp := place_lt (f := f) hi
    rw [nth_eq hp]
    exact List.getElem_mem _
  · intro h
    obtain ⟨j, hj, rfl⟩ := List.getElem_of_mem h
    obtain ⟨i, hi, hp⟩ := place_onto (hf (fun e => by rw [e] at hj; simp at hj)) hj
    exact ⟨i, List.mem_range.2 hi, by rw [hp, nth_eq hj]⟩
theorem looks_same {L L' : List Rg} {f : Nat} (hf : L ≠ [] → f < L.length) (hP : L'.Perm L) (hw : ∀ r ∈ L, 0 ≤ r.1 ∧ r.2 ≤ 18446744073709551615) : addAll (looks L f) = addAll L' := by
  have w1 : ∀ r ∈ looks L f, 0 ≤ r.1 ∧ r.2 ≤ 18446744073709551615 := fun r h => hw r ((looks_mem hf r).1 h)
  have w2 : ∀ r ∈ L', 0 ≤ r.1 ∧ r.2 ≤ 18446744073709551615 := fun r h => hw r (hP.mem_iff.1 h)
  have f1 := (addAll_fit _ w1 _ (Nat.le_refl _)).1
  have f2 := (addAll_fit _ w2 _ (Nat.le_refl _)).1
  rw [List.take_length] at f1 f2
  refine fit_ext _ _ f1 f2 (fun y => ?_)
  have m1 := addAll_mem _ w1 y _ (Nat.le_refl _)
  have m2 := addAll_mem _ w2 y _ (Nat.le_refl _)
  rw [List.take_length] at m1 m2
  rw [m1, m2]
  unfold mem
  constructor
  · rintro ⟨r, hr, h⟩
    exact ⟨r, hP.mem_iff.2 ((looks_mem hf r).1 hr), h⟩
  · rintro ⟨r, hr, h⟩
    exact ⟨r, (looks_mem hf r).2 (hP.mem_iff.1 hr), h⟩

end Go.Proofs.Ytjbjaklbckhodaa
