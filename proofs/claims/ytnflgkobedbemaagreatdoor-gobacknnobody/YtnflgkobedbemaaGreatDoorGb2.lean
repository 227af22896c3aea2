import Derived.Test.YtnflgkobedbemaaGreatDoorGb0
namespace Go.Proofs.YtnflgkobedbemaaGreatDoor
open Go.RowKit Go.Maps Go.Sort
theorem bits_one (s : Int) : bits BinOp.and IntKind.i64 s 1 = 0 ∨ bits BinOp.and IntKind.i64 s 1 = 1 := by
  have h : ∀ b : BitVec 64, IntKind.i64.wrap ((b &&& 1#64).toNat : Int) = 0 ∨ IntKind.i64.wrap ((b &&& 1#64).toNat : Int) = 1 := by
    intro b
    have h2 : (b &&& 1#64).toNat = b.toNat % 2 := by rw [BitVec.toNat_and]; exact Nat.and_one_is_mod _
    rw [h2]
    rcases Nat.mod_two_eq_zero_or_one b.toNat with h | h <;> rw [h]
    · exact .inl (by decide)
    · exact .inr (by decide)
  exact h (BitVec.ofInt 64 s)
end Go.Proofs.YtnflgkobedbemaaGreatDoor
