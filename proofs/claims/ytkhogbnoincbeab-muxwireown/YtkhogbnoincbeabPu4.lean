import Derived.Test.YtkhogbnoincbeabPu3
namespace Go.Proofs.Ytkhogbnoincbeab
open Go.RowKit Go.Maps Go.Sort
set_option maxRecDepth 100000

theorem by8_of (x : BitVec 8) : by8 (ub x) = x := by
  unfold by8 ub
  rw [Int.toNat_natCast, BitVec.ofNat_toNat, BitVec.setWidth_eq]
section
variable {F G : PF} {l m : List (BitVec 8)}
theorem str_inv (h : readF 32 F l = (0, G, m)) : ∃ v : Nat, v ≤ 4611686018427387904 ∧ G = { F with s := (v : Int) } ∧ l = numB v ++ m ∧ Eats (readF 32 F) G (numB v) := by
  have h2 : strD F l = (0, G, m) := h
  unfold strD at h2
  simp only [Prod.mk.injEq] at h2
  obtain ⟨h3, h4, h5⟩ := h2
  have h6 : numD 9 0 0 l = (0, (numD 9 0 0 l).2.1, m) := by rw [← h5, ← h3]
  obtain ⟨e1, e2⟩ := numD_of h6
  generalize (numD 9 0 0 l).2.1 = v at *
  refine ⟨v, e2, h4.symm, e1, fun k => ?_, fun j hj => ?_⟩
  · show strD F _ = _
    unfold strD
    rw [numD_back v k e2, ← h4]
  · show (strD F _).1 = _
    exact numB_cut v e2 j hj
theorem n_inv (h : readF 41 F l = (0, G, m)) : ∃ v : Nat, v ≤ 4611686018427387904 ∧ G = { F with n := (v : Int) } ∧ l = numB v ++ m ∧ Eats (readF 41 F) G (numB v) := by
  have h2 : nD F l = (0, G, m) := h
  unfold nD at h2
  simp only [Prod.mk.injEq] at h2
  obtain ⟨h3, h4, h5⟩ := h2
  have h6 : numD 9 0 0 l = (0, (numD 9 0 0 l).2.1, m) := by rw [← h5, ← h3]
  obtain ⟨e1, e2⟩ := numD_of h6
  generalize (numD 9 0 0 l).2.1 = v at *
  refine ⟨v, e2, h4.symm, e1, fun k => ?_, fun j hj => ?_⟩
  · show nD F _ = _
    unfold nD
    rw [numD_back v k e2, ← h4]
  · show (nD F _).1 = _
    exact numB_cut v e2 j hj
theorem cls_inv (h : readF 34 F l = (0, G, m)) : ∃ x : BitVec 8, G = { F with c := ub x } ∧ l = [x] ++ m ∧ Eats (readF 34 F) G [x] := by
  have h2 : clsD F l = (0, G, m) := h
  cases l with
  | nil => simp [clsD, oneD] at h2
  | cons x l =>
    simp only [clsD, oneD, Prod.mk.injEq, true_and] at h2
    obtain ⟨rfl, rfl⟩ := h2
    refine ⟨x, rfl, rfl, fun k => rfl, fun j hj => ?_⟩
    obtain rfl : j = 0 := by simp at hj; exact hj
    rfl
theorem shr_inv (h : readF 36 F l = (0, G, m)) : ∃ x : BitVec 8, G = { F with h := ub x } ∧ l = [x] ++ m ∧ Eats (readF 36 F) G [x] := by
  have h2 : shrD F l = (0, G, m) := h
  cases l with
  | nil => simp [shrD, oneD] at h2
  | cons x l =>
    simp only [shrD, oneD, Prod.mk.injEq, true_and] at h2
    obtain ⟨rfl, rfl⟩ := h2
    refine ⟨x, rfl, rfl, fun k => rfl, fun j hj => ?_⟩
    obtain rfl : j = 0 := by simp at hj; exact hj
    rfl
theorem data_inv (h : readF 38 F l = (0, G, m)) : ∃ bs : List (BitVec 8), bs.length ≤ 16384 ∧ G = { F with bs := bs } ∧ l = (numB bs.length ++ bs) ++ m ∧ Eats (readF 38 F) G (numB bs.length ++ bs) := by
  have h2 : dataD F l = (0, G, m) := h
  unfold dataD at h2
  split at h2
  · rename_i hh
    simp only [Prod.mk.injEq] at h2
    exact absurd h2.1 hh
  · rename_i h3
    split at h2
    · simp at h2
    · rename_i h4
      split at h2
      · simp at h2
      · rename_i h5
        simp only [Prod.mk.injEq, true_and] at h2
        obtain ⟨h6, h7⟩ := h2
        have h8 : numD 9 0 0 l = (0, (numD 9 0 0 l).2.1, (numD 9 0 0 l).2.2) := by
          have : (numD 9 0 0 l).1 = 0 := Decidable.byContradiction h3
          rw [← this]
        obtain ⟨e1, e2⟩ := numD_of h8
        generalize (numD 9 0 0 l).2.1 = v at *
        generalize (numD 9 0 0 l).2.2 = r at *
        have hl : (r.take v).length = v := by rw [List.length_take]; omega
        refine ⟨r.take v, by omega, h6.symm, ?_, fun k => ?_, fun j hj => ?_⟩
        · rw [hl, e1, ← h7, List.append_assoc, List.take_append_drop]
        · show dataD F _ = _
          unfold dataD
          rw [hl, List.append_assoc, numD_back v _ e2]
          simp only [not_true_eq_false, if_false]
          rw [if_neg (by omega), if_neg (by simp; omega), ← h6]
          rw [show List.take v (r.take v ++ k) = r.take v by rw [List.take_append_of_le_length (by omega), List.take_of_length_le (by omega)], show List.drop v (r.take v ++ k) = k by rw [List.drop_append_of_le_length (by omega), List.drop_of_length_le (by omega), List.nil_append]]
        · show (dataD F _).1 = _
          unfold dataD
          rw [hl] at hj ⊢
          by_cases hj2 : j < (numB v).length
          · rw [List.take_append_of_le_length (by omega)]
            have := numB_cut v e2 j hj2
            rw [if_pos (by rw [this]; decide)]
            exact this
          · rw [List.take_append, List.take_of_length_le (by omega), numD_back v _ e2]
            simp only [not_true_eq_false, if_false]
            rw [if_neg (by omega), if_pos (by rw [List.length_append, hl] at hj; rw [List.length_take, hl]; omega)]
end
theorem all_inv {t : List (Nat × Nat)} {r f : Nat} {F G : PF} {l m : List (BitVec 8)} (h : allD ((r, f) :: t) F l = (0, G, m)) : ∃ F1 l1, readF r F l = (0, F1, l1) ∧ fitB f F1 = true ∧ allD t F1 l1 = (0, G, m) := by
  simp only [allD] at h
  split at h
  · rename_i hh
    rw [h] at hh
    exact absurd rfl hh
  · rename_i h1
    split at h
    · simp at h
    · rename_i h2
      refine ⟨(readF r F l).2.1, (readF r F l).2.2, ?_, by simpa using h2, h⟩
      have : (readF r F l).1 = 0 := Decidable.byContradiction h1
      rw [← this]
theorem eats_nil (F : PF) : Eats (allD [] F) F [] := ⟨fun _ => rfl, fun j hj => by simp at hj⟩
theorem eats_cons {t : List (Nat × Nat)} {r f : Nat} {F F1 G : PF} {p q : List (BitVec 8)} (h1 : Eats (readF r F) F1 p) (hf : fitB f F1 = true) (h2 : Eats (allD t F1) G q) : Eats (allD ((r, f) :: t) F) G (p ++ q) := by
  refine ⟨fun m => ?_, fun j hj => ?_⟩
  · simp only [allD]
    rw [List.append_assoc, h1.all (q ++ m), if_neg (by simp), if_neg (by simp [hf])]
    exact h2.all m
  · simp only [allD]
    by_cases hj2 : j < p.length
    · rw [List.take_append_of_le_length (by omega)]
      have := h1.cut j hj2
      rw [if_pos (by rw [this]; decide)]
      exact this
    · rw [List.take_append, List.take_of_length_le (by omega), h1.all, if_neg (by simp), if_neg (by simp [hf])]
      exact h2.cut _ (by simp at hj; omega)
theorem eats_kind {k : Int} (hk : Known k) {G : PF} {p : List (BitVec 8)} (h : Eats (allD (flds k.toNat) { PF.zero with k := k }) G p) : Eats (allA PF.zero) G (by8 k :: p) := by
  refine ⟨fun m => ?_, fun j hj => ?_⟩
  · rw [List.cons_append, allA_kind hk]
    exact h.all m
  · cases j with
    | zero => rfl
    | succ j =>
      rw [List.take_succ_cons, allA_kind hk]
      exact h.cut j (by simpa using hj)
end Go.Proofs.Ytkhogbnoincbeab
