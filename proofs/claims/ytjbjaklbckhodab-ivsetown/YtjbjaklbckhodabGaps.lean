import Derived.Test.YtjbjaklbckhodabSets
import Derived.Test.YtjbjaklbckhodabSorted
namespace Go.Proofs.Ytjbjaklbckhodab
open Go.RowKit
set_option maxRecDepth 100000

set_option maxHeartbeats 1000000 in
theorem below_any {w : World} {p : Nat} {v : Value} {L : List Rg} (S : SetAt w p v L) (F : Fit L) (hf : (L.length + 2) * 16 ≤ 140737488355328) (x : Int) (h1 : x ≤ 18446744073709551615) :
    Calls Try.prog 35 #[.pointer (some ⟨p, 0, none⟩), .int .u64 x] w fun e w' => e = .returned (.int .u64 (total (clipL L (0, x)))) ∧ ∃ v', SetAt w' p v' (remL L (0, x)) ∧ Turned w w' p v v' := by
  have hR := rem_any S F hf (0, x) (Int.le_refl _) h1
  clear S F
  simp only at hR
  generalize remL L (0, x) = L2 at *
  go_enter Try.func35, Try.ntmps35
  go_wp2_with fail
  refine hR.mono ?_
  rintro e w' ⟨rfl, hv⟩
  have HV : Hid _ := hv
  clear hv
  go_wp2
  go_ret
  exact ⟨rfl, HV.out⟩

end Go.Proofs.Ytjbjaklbckhodab
