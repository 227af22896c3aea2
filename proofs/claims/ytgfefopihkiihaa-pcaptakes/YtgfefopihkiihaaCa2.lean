import Derived.Test.YtgfefopihkiihaaMk
namespace Go.Proofs.Ytgfefopihkiihaa
open Go.RowKit Go.Maps
set_option maxRecDepth 100000

set_option maxHeartbeats 8000000 in
theorem bounded_any (w : World) (e : Evt) : Calls Try.prog 25 #[.agg (ecells e).toArray] w fun en w' => en = .returned (.bool e.good) ∧ Below w.heap.size w w' := by
  have R := Row.new w (ecells e) 33
  have x0 := R.cell 0 _ rfl
  have x1 := R.cell 1 _ rfl
  have x2 := R.cell 2 _ rfl
  have x4 := R.cell 4 _ rfl
  have HB := hid (below_new w (.cells (ecells e).toArray 33))
  obtain ⟨a, b, c, d, fa, fc, bs⟩ := e
  simp only [ecells, Evt.val, Evt.good] at *
  clear R
  by_cases h1 : 1 ≤ a <;> by_cases h2 : a < 7 <;> (obtain rfl | rfl | ⟨h3, h4⟩ : b = 0 ∨ b = 1 ∨ (¬ b = 0 ∧ ¬ b = 1) := by omega) <;> by_cases h5 : 0 ≤ c <;> by_cases h6 : c < 8
  all_goals try (exfalso; omega)
  all_goals
    try have h2' : a ≤ 6 := by omega
    try have h2' : ¬ a ≤ 6 := by omega
    try have h3' : (b == 0) = false := by simpa using h3
    try have h4' : (b == 1) = false := by simpa using h4
    go_enter Try.func25, Try.ntmps25
    go_wp2
    go_ret
    refine ⟨?_, HB.out⟩
    simp [*]
set_option maxHeartbeats 8000000 in
theorem right_any (w : World) (e : Evt) : Calls Try.prog 28 #[.agg (ecells e).toArray] w fun en w' => en = .returned (.bool (e.good && decide (e.bs.length ≤ 262132))) ∧ Below w.heap.size w w' := by
  have R := Row.new w (ecells e) 33
  have x0 := R.cell 0 _ rfl
  have x1 := R.cell 1 _ rfl
  have x2 := R.cell 2 _ rfl
  have x4 := R.cell 4 _ rfl
  have HB := hid (below_new w (.cells (ecells e).toArray 33))
  obtain ⟨a, b, c, d, fa, fc, bs⟩ := e
  simp only [ecells, Evt.val, Evt.good] at *
  clear R
  by_cases h1 : 1 ≤ a <;> by_cases h2 : a < 7 <;> (obtain rfl | rfl | ⟨h3, h4⟩ : b = 0 ∨ b = 1 ∨ (¬ b = 0 ∧ ¬ b = 1) := by omega) <;> by_cases h5 : 0 ≤ c <;> by_cases h6 : c < 8
  all_goals
    generalize bs.length = n at *
    by_cases h7 : n ≤ 262132
  all_goals try (exfalso; omega)
  all_goals
    try have h2' : a ≤ 6 := by omega
    try have h2' : ¬ a ≤ 6 := by omega
    try have h3' : (b == 0) = false := by simpa using h3
    try have h4' : (b == 1) = false := by simpa using h4
    try have h7' : (n : Int) ≤ 262132 := by omega
    try have h7' : 262132 < (n : Int) := by omega
    go_enter Try.func28, Try.ntmps28
    go_wp2
    go_ret
    refine ⟨?_, HB.out⟩
    simp [*]
end Go.Proofs.Ytgfefopihkiihaa
