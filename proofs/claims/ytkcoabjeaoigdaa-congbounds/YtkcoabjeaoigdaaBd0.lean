import Derived.Test.YtkcoabjeaoigdaaFair
import Derived.ArgAppend
namespace Go.Proofs.Ytkcoabjeaoigdaa
open Go.RowKit Go.Sort
set_option maxRecDepth 100000

/-- What a call makes of a window: whose it is, and where to. -/
theorem ack_up {n k : Nat} : ∀ (F : Nat) (D : Nat → Ln), (D k).Ok → (D k).c ≤ (ackD n k F D k).c ∧ ∀ j, j ≠ k → ackD n k F D j = D j
  | 0, D, _ => ⟨Int.le_refl _, fun _ _ => rfl⟩
  | F + 1, D, ok => by
    by_cases hc : (D k).c < 262144
    · rw [ackD_step hc]
      have h := ack_up (n := n) (k := k) F (growD D n k) (by rw [growD_at]; exact upc_ok ok)
      have h2 := upc_b (n := n) ok
      rw [growD_at] at h
      refine ⟨by have := h.1; simp only at this; omega, fun j hj => ?_⟩
      rw [h.2 j hj]
      exact upd_off _ _ _ _ hj
    · rw [ackD_full hc]
      exact ⟨Int.le_refl _, fun _ _ => rfl⟩
theorem upd_c (D : Nat → Ln) (k j : Nat) (l : Ln) (h : l.c = (D k).c) : (upd D k l j).c = (D j).c := by
  unfold upd
  split
  · next e => rw [h, e]
  · rfl
/-- The law's two tests. -/
theorem act_moves {D : Nat → Ln} {n : Nat} (ok : ∀ k, k < n → (D k).Ok) (o : OpV) {j : Nat} (hj : j < n) :
    (¬ (o.path = j ∧ (o.kind = 3 ∨ o.kind = 4 ∨ o.kind = 5)) → (actD D n o j).c = (D j).c) ∧ (o.kind = 3 → (D j).c ≤ (actD D n o j).c) ∧ (o.kind = 4 ∨ o.kind = 5 → (actD D n o j).c ≤ max (D j).c 2048) := by
  have okj := ok j hj
  have c0 := okj.c0
  unfold actD
  by_cases k1 : o.kind = 1
  · rw [if_pos k1]
    have e : (takeD D n o.path o.on j).c = (D j).c := by
      unfold takeD
      split
      · exact upd_c _ _ _ _ rfl
      · rfl
    exact ⟨fun _ => e, fun h => by omega, fun h => by omega⟩
  · rw [if_neg k1]
    by_cases k2 : o.kind = 2
    · rw [if_pos k2]
      have e : (rttD D n o.path o.ms j).c = (D j).c := by
        unfold rttD
        split
        · exact upd_c _ _ _ _ rfl
        · rfl
      exact ⟨fun _ => e, fun h => by omega, fun h => by omega⟩
    · rw [if_neg k2]
      by_cases k3 : o.kind = 3
      · rw [if_pos k3]
        by_cases hp : 0 ≤ o.path ∧ o.path < n
        · have e : ackedD D n o.path o.n = ackD n o.path.toNat o.n.toNat D := by unfold ackedD; rw [if_pos hp]
          rw [e]
          have h := ack_up (n := n) (k := o.path.toNat) o.n.toNat D (ok _ (by omega))
          by_cases hjk : j = o.path.toNat
          · subst hjk
            exact ⟨fun hh => by omega, fun _ => h.1, fun h => by omega⟩
          · rw [h.2 j hjk]
            exact ⟨fun _ => rfl, fun _ => Int.le_refl _, fun h => by omega⟩
        · have e : ackedD D n o.path o.n = D := by unfold ackedD; rw [if_neg hp]
          rw [e]
          exact ⟨fun _ => rfl, fun _ => Int.le_refl _, fun h => by omega⟩
      · rw [if_neg k3]
        have hl : ∀ b, (¬ o.path = j → (loseD D n o.path b j).c = (D j).c) ∧ (loseD D n o.path b j).c ≤ max (D j).c 2048 := by
          intro b
          unfold loseD
          split
          · next hp =>
            by_cases hjk : j = o.path.toNat
            · subst hjk
              rw [upd_at]
              refine ⟨fun h => by omega, ?_⟩
              simp only
              unfold half
              split <;> omega
            · rw [upd_off _ _ _ _ hjk]
              exact ⟨fun _ => rfl, by omega⟩
          · exact ⟨fun _ => rfl, by omega⟩
        by_cases k4 : o.kind = 4
        · rw [if_pos k4]
          exact ⟨fun h => (hl false).1 (by omega), fun h => by omega, fun _ => (hl false).2⟩
        · rw [if_neg k4]
          by_cases k5 : o.kind = 5
          · rw [if_pos k5]
            exact ⟨fun h => (hl true).1 (by omega), fun h => by omega, fun _ => (hl true).2⟩
          · rw [if_neg k5]
            exact ⟨fun _ => rfl, fun h => by omega, fun h => by omega⟩
end Go.Proofs.Ytkcoabjeaoigdaa
