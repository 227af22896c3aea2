import Derived.Test.YtahkbklhngiloaaOr1b
import Derived.Deep.CutRange
import Derived.Lib.QuietBelow
namespace Go.Proofs.Ytahkbklhngiloaa
open Go.RowKit Go.Maps
set_option maxRecDepth 100000

theorem build32 (w : World) (a b : Int) : (Instr.build 32 #[(0, .int .i64 a), (1, .int .i64 b)]).run Try.prog w = .ok (.agg #[.int .i64 a, .int .i64 b]) w := by kernel_rfl
theorem build32z (w : World) : (Instr.build 32 #[]).run Try.prog w = .ok (.agg #[.int .i64 0, .int .i64 0]) w := by kernel_rfl
theorem bsl22 (w : World) (i : Int) : (Instr.buildSlice 33 1 #[(0, .int .u64 i)]).run Try.prog w = .ok (.slice (some ⟨w.heap.size, 0, none⟩) 1 1) (w.alloc (.cells #[.int .u64 i] 22)) := by kernel_rfl
theorem bits_u (n : Int) : bits BinOp.and IntKind.u64 n 1 = n % 2 := by
  have h2 : ∀ b : BitVec 64, IntKind.u64.wrap ((b &&& 1#64).toNat : Int) = (b.toNat : Int) % 2 := by
    intro b
    have h2 : (b &&& 1#64).toNat = b.toNat % 2 := by rw [BitVec.toNat_and]; exact Nat.and_one_is_mod _
    rw [h2]
    rcases Nat.mod_two_eq_zero_or_one b.toNat with h | h <;> rw [h]
    · have : (b.toNat : Int) % 2 = 0 := by omega
      rw [this]; decide
    · have : (b.toNat : Int) % 2 = 1 := by omega
      rw [this]; decide
  refine (h2 (BitVec.ofInt 64 n)).trans ?_
  rw [BitVec.toNat_ofInt]
  omega
end Go.Proofs.Ytahkbklhngiloaa
