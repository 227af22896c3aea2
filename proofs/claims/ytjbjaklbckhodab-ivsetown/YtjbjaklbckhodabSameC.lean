import Derived.Test.YtjbjaklbckhodabPlus
namespace Go.Proofs.Ytjbjaklbckhodab
open Go.RowKit
set_option maxRecDepth 100000

set_option maxHeartbeats 1000000 in
/-- Two lists that are the same, wherever they lie. -/
theorem same_cells {w : World} {a a' : Option Addr} {c c' : Nat} {L : List Rg} (C : Cells w a L) (D : Cells w a' L) (hf : L.length * 16 ≤ 140737488355328) :
    Calls Try.prog 7 #[.slice a L.length c, .slice a' L.length c'] w fun e w' => e = .returned (.bool true) ∧ ∃ q, w' = w.drewN q := by
  have hne : ((L.length : Int) != (L.length : Int)) = false := by simp
  have HC := hid C
  have HD := hid D
  clear C D
  go_enter Try.func7, Try.ntmps7
  go_wp2
  go_loopg [13] L.length (fun kx i wr => ∃ k : Nat, k ≤ L.length ∧ L.length - k ≤ kx ∧ i = .int .i64 k ∧ ∃ q, wr = w.drewN q)
  case atStart => exact ⟨0, Nat.zero_le _, by omega, rfl, 0, rfl⟩
  case round =>
    obtain ⟨k, hk, hkx, rfl, q, rfl⟩ := hrel
    by_cases hlt : k < L.length
    · obtain ⟨ad, rfl, c1, c2⟩ := rcells_pair HC.out k hlt
      obtain ⟨ae, rfl, d1, d2⟩ := rcells_pair HD.out k hlt
      rw [add_next] at c2 d2
      generalize L[k] = r at *
      obtain ⟨rl, rh⟩ := r
      simp only at c1 c2 d1 d2
      have hki : (k : Int) < (L.length : Int) := by omega
      go_wp2
      go_quiet (fail)
      go_wp2
      go_roundg (L.length - (k + 1))
      case measure => omega
      case rel => exact ⟨k + 1, hlt, Nat.le_refl _, by go_num, q + nq, rfl⟩
    · have hki : ¬ (k : Int) < (L.length : Int) := by omega
      go_wp2
      go_ret
      exact ⟨rfl, q, rfl⟩
end Go.Proofs.Ytjbjaklbckhodab
