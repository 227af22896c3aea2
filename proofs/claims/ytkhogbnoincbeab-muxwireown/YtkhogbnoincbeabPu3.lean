import Derived.Test.YtkhogbnoincbeabPu2
namespace Go.Proofs.Ytkhogbnoincbeab
open Go.RowKit Go.Maps Go.Sort
set_option maxRecDepth 100000

/-- What a number was read of. -/
theorem numD_inv : ∀ (f i acc : Nat) (l : List (BitVec 8)) (v : Nat) (m : List (BitVec 8)), numD f i acc l = (0, v, m) → ∃ n, v = acc + n * 128 ^ i ∧ l = numB n ++ m ∧ (0 < i → 0 < n) ∧ v ≤ 4611686018427387904
  | 0, _, _, _, _, _, h => by simp [numD] at h
  | _ + 1, _, _, [], _, _, h => by simp [numD] at h
  | f + 1, i, acc, x :: l, v, m, h => by
    simp only [numD] at h
    have hx := x.isLt
    split at h
    · rename_i hb
      obtain ⟨n, e1, e2, e3, e4⟩ := numD_inv f (i + 1) _ l v m h
      have hn := e3 (by omega)
      refine ⟨n * 128 + x.toNat % 128, ?_, ?_, fun _ => by omega, e4⟩
      · rw [e1, Nat.pow_succ, Nat.add_mul, ← Nat.mul_assoc, Nat.mul_right_comm]
        omega
      · rw [numB_big (by omega), show (n * 128 + x.toNat % 128) / 128 = n by omega, show (n * 128 + x.toNat % 128) % 128 = x.toNat % 128 by omega, List.cons_append, ← e2]
        congr 1
        apply BitVec.eq_of_toNat_eq
        rw [BitVec.toNat_ofNat]
        omega
    · rename_i hb
      split at h
      · simp at h
      · rename_i hbad
        simp only [Prod.mk.injEq, true_and] at h
        obtain ⟨rfl, rfl⟩ := h
        refine ⟨x.toNat % 128, rfl, ?_, fun hi => ?_, ?_⟩
        · rw [numB_small (by omega), show x.toNat % 128 = x.toNat by omega, BitVec.ofNat_toNat, BitVec.setWidth_eq]
          rfl
        · have hz : ¬ x = 0#8 := fun e => hbad (.inl ⟨e, hi⟩)
          have : ¬ x.toNat = 0 := fun e => hz (BitVec.eq_of_toNat_eq (by simpa using e))
          omega
        · have : ¬ 4611686018427387904 < acc + x.toNat % 128 * 128 ^ i := fun e => hbad (.inr e)
          omega
theorem numD_of {l : List (BitVec 8)} {v : Nat} {m : List (BitVec 8)} (h : numD 9 0 0 l = (0, v, m)) : l = numB v ++ m ∧ v ≤ 4611686018427387904 := by
  obtain ⟨n, e1, e2, _, e4⟩ := numD_inv 9 0 0 l v m h
  simp at e1
  subst e1
  exact ⟨e2, e4⟩
/-- A number that is cut short. -/
theorem numD_cut : ∀ (f i acc : Nat) (l : List (BitVec 8)) (v : Nat) (m : List (BitVec 8)) (j : Nat), numD f i acc l = (0, v, m) → j < l.length - m.length → (numD f i acc (l.take j)).1 = 174
  | 0, _, _, _, _, _, _, h, _ => by simp [numD] at h
  | _ + 1, _, _, [], _, _, _, h, _ => by simp [numD] at h
  | f + 1, i, acc, x :: l, v, m, j, h, hj => by
    cases j with
    | zero => rfl
    | succ j =>
      simp only [List.take_succ_cons, numD] at h ⊢
      split at h
      · rename_i hb
        rw [if_pos hb]
        exact numD_cut f (i + 1) _ l v m j h (by simp at hj; omega)
      · rename_i hb
        split at h
        · simp at h
        · simp only [Prod.mk.injEq, true_and] at h
          obtain ⟨_, rfl⟩ := h
          simp at hj
/-- A number that is read: what of, and what its beginnings are. -/
theorem num_pre {l : List (BitVec 8)} {v : Nat} {m : List (BitVec 8)} (h : numD 9 0 0 l = (0, v, m)) (j : Nat) (hj : j < (numB v).length) : (numD 9 0 0 ((numB v ++ m).take j)).1 = 174 := by
  obtain ⟨e, _⟩ := numD_of h
  have := numD_cut 9 0 0 l v m j h (by rw [e]; simp; exact hj)
  rw [e] at this
  exact this
/-- What one field takes: p; whatever follows is not looked at; a beginning of p is too short. -/
structure Eats (g : List (BitVec 8) → Int × PF × List (BitVec 8)) (G : PF) (p : List (BitVec 8)) : Prop where
  all : ∀ m, g (p ++ m) = (0, G, m)
  cut : ∀ j, j < p.length → (g (p.take j)).1 = 174
theorem numB_cut (v : Nat) (hv : v ≤ 4611686018427387904) (j : Nat) (hj : j < (numB v).length) : (numD 9 0 0 ((numB v).take j)).1 = 174 := by
  have := num_pre (numD_back v [] hv) j hj
  rwa [List.append_nil] at this
end Go.Proofs.Ytkhogbnoincbeab
