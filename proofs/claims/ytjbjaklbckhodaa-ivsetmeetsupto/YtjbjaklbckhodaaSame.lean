import Derived.Test.YtjbjaklbckhodaaUnion
import Derived.Test.YtjbjaklbckhodaaSorted
namespace Go.Proofs.Ytjbjaklbckhodaa
open Go.RowKit

set_option maxHeartbeats 1000000 in
/-- Two lists that are the same. -/
theorem same_yes {w : World} {g h c c' : Nat} {L : List Rg} (hg : w.heap[g]? = some (.cells (flat L).toArray 29 (0, 0))) (hh : w.heap[h]? = some (.cells (flat L).toArray 29 (0, 0))) (hf : L.length * 16 ≤ 140737488355328) :
    Calls Try.prog 12 #[.slice (some ⟨g, 0, none⟩) L.length c, .slice (some ⟨h, 0, none⟩) L.length c'] w fun e w' => e = .returned (.bool true) ∧ Below w.heap.size w w' := by
  have hne : ((L.length : Int) != (L.length : Int)) = false := by simp
  have HG : Hid _ := hg
  have HH : Hid _ := hh
  clear hg hh
  go_enter Try.func12, Try.ntmps12
  go_wp2
  go_loopg [13] L.length (fun kx i wr => ∃ k : Nat, k ≤ L.length ∧ L.length - k ≤ kx ∧ i = .int .i64 k ∧ ∃ q, wr = w.drewN q)
  case atStart => exact ⟨0, Nat.zero_le _, by omega, rfl, 0, rfl⟩
  case round =>
    obtain ⟨k, hk, hkx, rfl, q, rfl⟩ := hrel
    by_cases hlt : k < L.length
    · obtain ⟨c1, c2⟩ := row_pair HG.out k hlt
      obtain ⟨d1, d2⟩ := row_pair HH.out k hlt
      generalize L[k] = r at *
      obtain ⟨rl, rh⟩ := r
      simp only at c1 c2 d1 d2
      have hki : (k : Int) < (L.length : Int) := by omega
      go_wp2
      go_quiet (fail)
      go_wp2
      go_roundg (L.length - (k + 1))
      case measure => omega
      case rel => exact ⟨k + 1, hlt, Nat.le_refl _, by go_num, q + nq, rfl⟩
    · have hki : ¬ (k : Int) < (L.length : Int) := by omega
      go_wp2
      go_ret
      exact ⟨rfl, below_drewN (Below.refl _ _) q⟩

end Go.Proofs.Ytjbjaklbckhodaa
