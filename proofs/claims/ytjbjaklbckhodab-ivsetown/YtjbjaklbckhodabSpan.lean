import Derived.Test.YtjbjaklbckhodabKeep
import Derived.Laws.NewBlocks
namespace Go.Proofs.Ytjbjaklbckhodab
open Go.RowKit
set_option maxRecDepth 100000

/-- The mark of the k-th place of the i-th list. -/
def spanOf (i k : Nat) : Rg := (IntKind.u64.wrap (wrap64 (wrap64 (1000 * (i : Int)) + k)), i)
set_option maxHeartbeats 1000000 in
theorem span_any (w : World) (i k : Nat) (hi : (i : Int) ≤ 9223372036854775807) :
    Calls Try.prog 31 #[.int .i64 i, .int .i64 k] w fun e w' => e = .returned (.agg #[.int .u64 (spanOf i k).1, .int .u64 (spanOf i k).2]) ∧ Below w.heap.size w w' := by
  unfold spanOf
  go_enter Try.func31, Try.ntmps31
  go_wp2_with fail
  refine bodyPost_ret_by (v := .agg #[.int .u64 (IntKind.u64.wrap (wrap64 (wrap64 (1000 * (i : Int)) + k))), .int .u64 i]) ?_ rfl ?_
  · simp [results, Try.results31, go_sem]
  · exact ⟨rfl, below_box _ _⟩

end Go.Proofs.Ytjbjaklbckhodab
