import Derived.Test.YtkhogbnoincbeabSc0
namespace Go.Proofs.Ytkhogbnoincbeab
open Go.RowKit Go.Maps Go.Sort
set_option maxRecDepth 100000

set_option maxHeartbeats 4000000 in
theorem newScan_any (w : World) : Calls Try.prog 24 #[] w fun e w' => e = .returned (.pointer (some ⟨w.heap.size, 0, none⟩)) ∧ Sc w' w.heap.size (.slice none 0 0) 0 0 0 0 0 (.slice none 0 0) ∧ Below w.heap.size w w' := by
  go_enter Try.func24, Try.ntmps24
  go_wp2
  go_ret
  refine ⟨rfl, ?_, ?_⟩
  · refine ⟨((((((((((Row.new' w _ (scCells w.heap.size (.slice none 0 0) 0 0 0 0 0 (.slice none 0 0)) 76 _ rfl rfl)).alloc _).alloc _).alloc _).alloc _).alloc _).alloc _).alloc _).alloc _).alloc _, fun j h1 h2 => ?_⟩
    have : j = 1 ∨ j = 2 ∨ j = 3 ∨ j = 4 ∨ j = 5 ∨ j = 6 ∨ j = 7 ∨ j = 8 ∨ j = 9 := by omega
    rcases this with rfl | rfl | rfl | rfl | rfl | rfl | rfl | rfl | rfl
    · exact ((((((((Row.new' _ _ (fcells w.heap.size (flds 1)) 79 _ (by simp) rfl).alloc _).alloc _).alloc _).alloc _).alloc _).alloc _).alloc _).alloc _
    · exact (((((((Row.new' _ _ (fcells w.heap.size (flds 2)) 79 _ (by simp) rfl).alloc _).alloc _).alloc _).alloc _).alloc _).alloc _).alloc _
    · exact ((((((Row.new' _ _ (fcells w.heap.size (flds 3)) 79 _ (by simp) rfl).alloc _).alloc _).alloc _).alloc _).alloc _).alloc _
    · exact (((((Row.new' _ _ (fcells w.heap.size (flds 4)) 79 _ (by simp) rfl).alloc _).alloc _).alloc _).alloc _).alloc _
    · exact ((((Row.new' _ _ (fcells w.heap.size (flds 5)) 79 _ (by simp) rfl).alloc _).alloc _).alloc _).alloc _
    · exact (((Row.new' _ _ (fcells w.heap.size (flds 6)) 79 _ (by simp) rfl).alloc _).alloc _).alloc _
    · exact ((Row.new' _ _ (fcells w.heap.size (flds 7)) 79 _ (by simp) rfl).alloc _).alloc _
    · exact (Row.new' _ _ (fcells w.heap.size (flds 8)) 79 _ (by simp) rfl).alloc _
    · exact Row.new' _ _ (fcells w.heap.size (flds 9)) 79 _ (by simp) rfl
  · exact below_grow (below_grow (below_grow (below_grow (below_grow (below_grow (below_grow (below_grow (below_grow (below_new w _) _) _) _) _) _) _) _) _) _
end Go.Proofs.Ytkhogbnoincbeab
