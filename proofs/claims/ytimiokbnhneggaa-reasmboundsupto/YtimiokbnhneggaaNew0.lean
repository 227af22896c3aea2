import Derived.Test.YtimiokbnhneggaaIvNew
import Derived.Test.YtimiokbnhneggaaRtBase
namespace Go.Proofs.Ytimiokbnhneggaa
open Go.RowKit
set_option maxRecDepth 100000

set_option maxRecDepth 1000000 in
set_option maxHeartbeats 1000000 in
theorem ibitlen0 (w : World) : Calls Try.prog 56 #[.int .u64 0] w fun e w' => ∃ k : Int, e = .returned (.int .i64 k) ∧ w' = w := by
  go_enter Try.func56, Try.ntmps56
  go_wp2
  go_ret
  exact ⟨_, rfl, rfl⟩
set_option maxHeartbeats 1000000 in
theorem iinsertion0 (w : World) (a : Option Addr) (cap : Nat) (f : Value) : Calls Try.prog 70 #[.slice a 0 cap, .int .i64 0, .int .i64 0, f] w fun e w' => e = .returned (.tuple #[]) ∧ w' = w := by
  go_enter Try.func70, Try.ntmps70
  go_wp2
  refine wp_loop_rounds 1 ?_
  rw [rounds_succ]
  go_wp2
  refine bodyPost_end (results_none Try.results70 _ _ _) rfl ?_
  exact ⟨rfl, rfl⟩
set_option maxHeartbeats 1000000 in
theorem ipdq0 (w : World) (a : Option Addr) (cap : Nat) (f : Value) (lim : Int) : Calls Try.prog 55 #[.slice a 0 cap, .int .i64 0, .int .i64 0, .int .i64 lim, f] w fun e w' => e = .returned (.tuple #[]) ∧ w' = w := by
  go_enter Try.func55, Try.ntmps55
  go_wp2
  refine wp_loop_rounds 1 ?_
  rw [rounds_succ]
  go_wp2_with fail
  refine (iinsertion0 _ _ _ _).mono ?_
  rintro e w' ⟨rfl, rfl⟩
  go_wp2
  refine bodyPost_ret (results_none rfl _ _ _) rfl ?_
  exact ⟨rfl, rfl⟩
set_option maxHeartbeats 1000000 in
theorem isort0 (w : World) (a : Option Addr) (cap : Nat) (f : Value) : Calls Try.prog 40 #[.slice a 0 cap, f] w fun e w' => e = .returned (.tuple #[]) ∧ w' = w := by
  go_enter Try.func40, Try.ntmps40
  go_wp2_with fail
  refine (ibitlen0 _).mono ?_
  rintro e w' ⟨k, rfl, rfl⟩
  go_wp2_with fail
  refine (ipdq0 _ _ _ _ _).mono ?_
  rintro e w' ⟨rfl, rfl⟩
  go_wp2
  refine bodyPost_end (results_none Try.results40 _ _ _) rfl ?_
  exact ⟨rfl, rfl⟩
set_option maxHeartbeats 1000000 in
/-- A set of no ranges. -/
theorem new_none (w : World) :
    Calls Try.prog 21 #[.slice none 0 0] w fun e w' => ∃ p, e = .returned (.pointer (some ⟨p, 0, none⟩)) ∧ w'.heap[p]? = some (.cells #[.slice none 0 0] 53 (0, 0)) ∧ Below w.heap.size w w' := by
  have hC := copied_any (w := w) (a := none) (cap := 0) (L := []) ⟨fun h => absurd rfl h⟩ (by simp)
  have hbd := build62
  go_enter Try.func21, Try.ntmps21
  go_wp2_with (first | (go_at_call 39; refine hC.mono ?_; rintro e w1 ⟨g, rfl, hg1, hr1, hb1⟩; have HB1 := hid hb1; clear hr1 hb1 hC) | (go_at_call 40; refine (isort0 _ _ _ _).mono ?_; rintro e w2 ⟨rfl, rfl⟩))
  refine wp_loop_rounds 1 ?_
  rw [rounds_succ]
  go_wp2
  go_ret
  exact ⟨_, rfl, heap_alloc_new _ _, HB1.out.trans ((below_box _ _).mono HB1.out.size)⟩
end Go.Proofs.Ytimiokbnhneggaa
