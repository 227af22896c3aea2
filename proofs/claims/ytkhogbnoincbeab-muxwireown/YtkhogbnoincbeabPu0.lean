import Derived.Test.YtkhogbnoincbeabMx3
namespace Go.Proofs.Ytkhogbnoincbeab
open Go.RowKit Go.Maps Go.Sort
set_option maxRecDepth 100000

/-- A number in its shortest form. -/
def numB (n : Nat) : List (BitVec 8) := if n < 128 then [BitVec.ofNat 8 n] else BitVec.ofNat 8 (n % 128 + 128) :: numB (n / 128)
termination_by n
decreasing_by omega
theorem numB_small {n : Nat} (h : n < 128) : numB n = [BitVec.ofNat 8 n] := by rw [numB, if_pos h]
theorem numB_big {n : Nat} (h : ¬ n < 128) : numB n = BitVec.ofNat 8 (n % 128 + 128) :: numB (n / 128) := by rw [numB, if_neg h]
theorem numB_pos (n : Nat) : 1 ≤ (numB n).length := by
  by_cases h : n < 128
  · rw [numB_small h]; simp
  · rw [numB_big h]; simp
theorem numB_len : ∀ (k n : Nat), n < 128 ^ (k + 1) → (numB n).length ≤ k + 1
  | 0, n, h => by rw [numB_small (by omega)]; simp
  | k + 1, n, h => by
    by_cases hn : n < 128
    · rw [numB_small hn]; simp
    · rw [numB_big hn]
      have := numB_len k (n / 128) (by rw [Nat.pow_succ] at h; omega)
      simpa using this
theorem ub_low (n : Int) (h0 : 0 ≤ n) (h1 : n < 128) : n % 256 = ub (BitVec.ofNat 8 n.toNat) := by
  rw [ub, BitVec.toNat_ofNat]; omega
theorem ub_more (n : Int) (h0 : 0 ≤ n) : bits .or .u8 (n % 256) 128 = ub (BitVec.ofNat 8 (n.toNat % 128 + 128)) := by
  show IntKind.u8.wrap ((BitVec.ofInt 8 (n % 256) ||| BitVec.ofInt 8 128).toNat : Int) = _
  have e : n % 256 = ub (BitVec.ofNat 8 n.toNat) := by
    rw [ub, BitVec.toNat_ofNat]; omega
  rw [e, ub_ofInt]
  have e2 : BitVec.ofNat 8 n.toNat ||| BitVec.ofInt 8 128 = BitVec.ofNat 8 (n.toNat % 128 + 128) := by
    have h : ∀ x : BitVec 8, x ||| BitVec.ofInt 8 128 = BitVec.ofNat 8 (x.toNat % 128 + 128) := by decide
    rw [h, BitVec.toNat_ofNat]
    congr 2
    omega
  rw [e2]
  exact ub_wrap_ub _
end Go.Proofs.Ytkhogbnoincbeab
