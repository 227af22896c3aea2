import Derived.Test.YtkhogbnoincbeabSc4
import Derived.Test.YtkhogbnoincbeabEnc0
namespace Go.Proofs.Ytkhogbnoincbeab
open Go.RowKit Go.Maps Go.Sort
set_option maxRecDepth 100000

/-- A number's bytes and what follows are read as that number. -/
theorem numD_numB : ∀ (f i acc n : Nat) (m : List (BitVec 8)), n < 128 ^ f → 0 < f → (0 < i → 0 < n) → acc + n * 128 ^ i ≤ 4611686018427387904 → numD f i acc (numB n ++ m) = (0, acc + n * 128 ^ i, m)
  | 0, _, _, _, _, _, h, _, _ => by omega
  | f + 1, i, acc, n, m, hn, _, hi, hb => by
    by_cases hs : n < 128
    · rw [numB_small hs]
      have e1 : (BitVec.ofNat 8 n).toNat = n := by rw [BitVec.toNat_ofNat]; omega
      simp only [List.cons_append, List.nil_append, numD]
      rw [e1, if_neg (by omega), Nat.mod_eq_of_lt hs, if_neg]
      rintro (⟨hz, h0⟩ | h)
      · have := congrArg BitVec.toNat hz
        rw [e1] at this
        have h2 := hi h0
        have h3 : n = 0 := by simpa using this
        omega
      · omega
    · rw [numB_big hs]
      have e1 : (BitVec.ofNat 8 (n % 128 + 128)).toNat = n % 128 + 128 := by rw [BitVec.toNat_ofNat]; omega
      have e3 : n * 128 ^ i = (n / 128) * 128 ^ (i + 1) + n % 128 * 128 ^ i := by
        rw [Nat.pow_succ, ← Nat.mul_assoc, Nat.mul_right_comm, ← Nat.add_mul]
        congr 1
        omega
      have hf : 0 < f := by
        cases f with
        | zero => simp at hn; omega
        | succ f => omega
      simp only [List.cons_append, numD]
      rw [e1, if_pos (by omega), show (n % 128 + 128) % 128 = n % 128 by omega, numD_numB f (i + 1) _ (n / 128) m (by rw [Nat.pow_succ] at hn; omega) hf (fun _ => by omega) (by rw [e3] at hb; omega)]
      rw [e3]
      congr 2
      omega
theorem numD_back (n : Nat) (m : List (BitVec 8)) (h : n ≤ 4611686018427387904) : numD 9 0 0 (numB n ++ m) = (0, n, m) := by
  have := numD_numB 9 0 0 n m (by omega) (by omega) (fun h => absurd h (by decide)) (by simpa using h)
  simpa using this
end Go.Proofs.Ytkhogbnoincbeab
